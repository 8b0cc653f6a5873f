/-
  SchedRuns: what its walk asks of both sides; a list copied, its tells below 7.
-/
import Derived.Test.YtjhhncbadkpbaaaRun3
import Derived.Test.YtjhhncbadkpbaaaSame
import Derived.Test.YtjhhncbadkpbaaaArgs
namespace Go.Proofs.Ytjhhncbadkpbaaa
open Go.RowKit
def nrm (d : Do3) : Do3 := ⟨d.tell % 7, d.wake, d.inner⟩
def cur (xs : List Do3) (j : Nat) : List Do3 := (xs.map nrm).take j ++ List.replicate (xs.length - j) do0
theorem cur_zero (xs : List Do3) : cur xs 0 = List.replicate xs.length do0 := by simp [cur]
theorem cur_all (xs : List Do3) : cur xs xs.length = xs.map nrm := by
  unfold cur
  rw [Nat.sub_self, List.replicate_zero, List.append_nil, List.take_of_length_le (by simp)]
theorem cur_len (xs : List Do3) (j : Nat) (hj : j ≤ xs.length) : (cur xs j).length = xs.length := by simp [cur]; omega
theorem cur_set (xs : List Do3) (j : Nat) (hj : j < xs.length) : (cur xs j).set j (nrm xs[j]) = cur xs (j + 1) := by
  have h1 : ((xs.map nrm).take j).length = j := by simp; omega
  have h2 : List.replicate (xs.length - j) do0 = do0 :: List.replicate (xs.length - (j + 1)) do0 := by
    rw [show xs.length - j = (xs.length - (j + 1)) + 1 by omega, List.replicate_succ]
  have h3 : (xs.map nrm).take (j + 1) = (xs.map nrm).take j ++ [nrm xs[j]] := by
    rw [List.take_succ_eq_append_getElem (by simpa using hj)]
    simp
  unfold cur
  rw [List.set_append_right _ _ (by omega), h1, Nat.sub_self, h2, List.set_cons_zero, h3, List.append_assoc]
  rfl
/-- one of them is written, and then its tell again -/
theorem DBox.copy {w : World} {g : Nat} {xs : List Do3} {j : Nat} (hj : j < xs.length) (h : DBox w g (cur xs j)) :
    DBox (((w.setCell ⟨g, j * 3, none⟩ (.int .i64 xs[j].tell)).setCell ⟨g, j * 3 + 1, none⟩ (.int .i64 xs[j].wake)).setCell ⟨g, j * 3 + 2, none⟩ (.bool xs[j].inner)) g ((cur xs j).set j xs[j]) := by
  have hl := cur_len xs j (Nat.le_of_lt hj)
  have a := h.set0 j xs[j].tell (by omega)
  have b := a.set1 j xs[j].wake (by simp; omega)
  have c := b.set2 j xs[j].inner (by simp; omega)
  simpa using c
theorem DBox.norm {w : World} {g : Nat} {xs : List Do3} {j : Nat} (hj : j < xs.length) (h : DBox w g ((cur xs j).set j xs[j])) : DBox (w.setCell ⟨g, j * 3, none⟩ (.int .i64 (xs[j].tell % 7))) g (cur xs (j + 1)) := by
  have hl := cur_len xs j (Nat.le_of_lt hj)
  have a := h.set0 j (xs[j].tell % 7) (by simp; omega)
  rw [← cur_set xs j hj]
  have e : (⟨xs[j].tell % 7, xs[j].wake, xs[j].inner⟩ : Do3) = nrm xs[j] := rfl
  simpa [e] using a
theorem nrm_ok (xs : List Do3) : ∀ d ∈ xs.map nrm, 0 ≤ d.tell ∧ d.tell < 7 := fun d hd => by
  obtain ⟨e, _, rfl⟩ := List.mem_map.1 hd
  simp only [nrm]
  omega
theorem Pend.state {u : World} {B s g tb bb m : Nat} {y : PV} (h : Pend u B s g tb bb m y) : ∃ a c, u.cell? ⟨g, 1, none⟩ = some (.slice a m c) := by
  obtain ⟨S, R, V, tv, K, P, hs, hr, al, _, _, _, _, _, _, hm, _⟩ := h
  obtain ⟨a, c, hv⟩ := ownsRow_slice hr.rs
  refine ⟨a, c, ?_⟩
  rw [show u.cell? ⟨g, 1, none⟩ = some V.vs from hr.box.cell 1, hv, al.st, List.length_map, hs.is.len, hm]
/-- what is asked of both behind each pick -/
structure Asks (u : World) (B s g tb bb m : Nat) (S : SS) (R : RS) (V : RV) (tv : Value) (told : List Bool) : Prop where
  is : IsS u B s S
  good : Good S
  G : S.G.length = m
  rb : ∃ P, RB u B g V R P
  al : Alike S R
  sp : R.Sp = S.E.map (·.n)
  td : R.Td = told
  tw : TW u B tb bb tv told false
  nl : ∃ N, S.sum ≤ N ∧ told.length ≤ N ∧ N ≤ 300
theorem Asks.below {u u' : World} {B s g tb bb m : Nat} {S : SS} {R : RS} {V : RV} {tv : Value} {told : List Bool} (h : Asks u B s g tb bb m S R V tv told) (hb : Below u.heap.size u u') : Asks u' B s g tb bb m S R V tv told := by
  obtain ⟨P, hP⟩ := h.rb
  exact ⟨h.is.below hb, h.good, h.G, ⟨P, hP.below hb⟩, h.al, h.sp, h.td, h.tw.kt (p := fun _ => True) (Kt.below hb) trivial trivial, h.nl⟩
theorem RunX.asks {u : World} {B s g tb bb m N : Nat} (h : RunX u B s g tb bb m N) (hN : N ≤ 300) : ∃ S R V tv told, Asks u B s g tb bb m S R V tv told := by
  obtain ⟨S, R, V, tv, told, K, P, h, h1, h2, h3⟩ := h
  exact ⟨S, R, V, tv, told, h.sit.is, h.sit.good, h1, ⟨P, h.rb⟩, h.al, h.sp, h.td, h.sit.tw, N, h2, h3, hN⟩
theorem Asks.hB {u : World} {B s g tb bb m : Nat} {S : SS} {R : RS} {V : RV} {tv : Value} {told : List Bool} (h : Asks u B s g tb bb m S R V tv told) : B ≤ u.heap.size := h.is.hB
theorem Asks.cells {u : World} {B s g tb bb m : Nat} {S : SS} {R : RS} {V : RV} {tv : Value} {told : List Bool} (h : Asks u B s g tb bb m S R V tv told) : ∃ al cl at' ct av cv, V.vl = .slice al S.L.length cl ∧ V.vt = .slice at' told.length ct ∧ tv = .slice av told.length cv ∧ u.cell? ⟨bb, 0, none⟩ = some (.bool false) ∧ u.cell? ⟨g, 3, none⟩ = some (.slice al S.L.length cl) ∧ u.cell? ⟨g, 4, none⟩ = some (.slice at' told.length ct) ∧ u.cell? ⟨tb, 0, none⟩ = some (.slice av told.length cv) := by
  obtain ⟨P, hP⟩ := h.rb
  obtain ⟨al, cl, e1⟩ := ownsRow_slice hP.rl
  obtain ⟨at', ct, e2⟩ := ownsRow_slice hP.rt
  obtain ⟨av, cv, e3⟩ := ownsRow_slice h.tw.row
  rw [h.al.ln, List.length_map] at e1
  rw [h.td] at e2
  refine ⟨al, cl, at', ct, av, cv, e1, e2, e3, h.tw.bbox.cell 0, ?_, ?_, ?_⟩
  · rw [← e1]; exact hP.box.cell 3
  · rw [← e2]; exact hP.box.cell 4
  · rw [← e3]; exact h.tw.tbox.cell 0
theorem Asks.line {u : World} {B s g tb bb m : Nat} {S : SS} {R : RS} {V : RV} {tv : Value} {told : List Bool} (h : Asks u B s g tb bb m S R V tv told) : u.ownsRow B 3 1 V.vl (S.L.map (· + 1)).length (ics (S.L.map (· + 1))) := by
  obtain ⟨P, hP⟩ := h.rb
  have := hP.rl
  rwa [h.al.ln] at this
theorem Asks.blk {u : World} {B s g tb bb m : Nat} {S : SS} {R : RS} {V : RV} {tv : Value} {told : List Bool} (h : Asks u B s g tb bb m S R V tv told) : R.blk = S.blk := h.al.blk h.is.len
theorem Asks.Ll {u : World} {B s g tb bb m : Nat} {S : SS} {R : RS} {V : RV} {tv : Value} {told : List Bool} (h : Asks u B s g tb bb m S R V tv told) : S.L.length + S.blk.length ≤ m := by
  have := room h.good h.is.len h.is.ll
  rw [h.G] at this
  exact this
theorem Asks.rblocked {u : World} {B s g tb bb m : Nat} {S : SS} {R : RS} {V : RV} {tv : Value} {told : List Bool} (h : Asks u B s g tb bb m S R V tv told) (hm : m < 1000) : Calls Try.prog 20 #[ptr g] u fun r w' => ∃ v', r = .returned v' ∧ w'.ownsRow u.heap.size 3 1 v' S.blk.length (ics S.blk) ∧ Below u.heap.size u w' := by
  obtain ⟨P, hP⟩ := h.rb
  have := rblocked_at hP (by rw [h.al.st, List.length_map, h.is.len, h.G]; exact hm)
  rwa [h.blk] at this
/-- what was told, on both sides -/
theorem Asks.told {u : World} {B s g tb bb m : Nat} {S : SS} {R : RS} {V : RV} {tv : Value} {told : List Bool} (h : Asks u B s g tb bb m S R V tv told) (j : Nat) (hj : j < told.length) : ∃ q c q' c' b, tv = .slice (some ⟨q, 0, none⟩) told.length c ∧ V.vt = .slice (some ⟨q', 0, none⟩) told.length c' ∧ u.cell? ⟨q, j, none⟩ = some (.bool b) ∧ u.cell? ⟨q', j, none⟩ = some (.bool b) := by
  obtain ⟨P, hP⟩ := h.rb
  have ht := hP.rt
  rw [h.td] at ht
  obtain ⟨q, c, e1, x1⟩ := ownsRow_cell h.tw.row j hj
  obtain ⟨q', c', e2, x2⟩ := ownsRow_cell ht j hj
  refine ⟨q, c, q', c', told[j], e1, e2, ?_, ?_⟩
  · rw [x1]; simp [hj]
  · rw [x2]; simp [hj]
theorem Asks.stat {u : World} {B s g tb bb m : Nat} {S : SS} {R : RS} {V : RV} {tv : Value} {told : List Bool} (h : Asks u B s g tb bb m S R V tv told) (hm : m < 1000) (j : Nat) (hj : j < m) : ∃ q c q' c' st n : Nat, st < 200 ∧ n ≤ 300 ∧ u.cell? ⟨g, 1, none⟩ = some (.slice (some ⟨q, 0, none⟩) m c) ∧ u.cell? ⟨g, 2, none⟩ = some (.slice (some ⟨q', 0, none⟩) m c') ∧ u.cell? ⟨q, j, none⟩ = some (.int .i64 (st : Int)) ∧ u.cell? ⟨q', j, none⟩ = some (.int .i64 (n : Int)) ∧
    (Calls Try.prog 21 #[ptr s, .int .i64 ((j + 1 : Nat) : Int)] u fun r w' => r = .returned (.int .u8 (st : Int)) ∧ w' = u) ∧ (Calls Try.prog 22 #[ptr s, .int .i64 ((j + 1 : Nat) : Int)] u fun r w' => r = .returned (.int .i64 (n : Int)) ∧ w' = u) := by
  obtain ⟨P, hP⟩ := h.rb
  have hE : S.E.length = m := by rw [h.is.len, h.G]
  obtain ⟨e, he⟩ : ∃ e, S.E[j]? = some e := ⟨_, List.getElem?_eq_getElem (by omega)⟩
  have hst : R.St.length = m := by rw [h.al.st, List.length_map, hE]
  have hsp : R.Sp.length = m := by rw [h.sp, List.length_map, hE]
  obtain ⟨q, c, e1, x1, _⟩ := ics_at hP.rs rfl j (by omega)
  obtain ⟨q', c', e2, x2, _⟩ := ics_at hP.rn rfl j (by omega)
  have v1 : R.St[j]'(by omega) = e.st := by
    have : R.St[j]? = some e.st := by rw [h.al.st, List.getElem?_map, he]; rfl
    exact (List.getElem?_eq_some_iff.1 this).2
  have v2 : R.Sp[j]'(by omega) = e.n := by
    have : R.Sp[j]? = some e.n := by rw [h.sp, List.getElem?_map, he]; rfl
    exact (List.getElem?_eq_some_iff.1 this).2
  obtain ⟨N, n1, n2, n3⟩ := h.nl
  have hen : e.n ≤ S.sum := le_sumS he
  rw [hst] at e1
  rw [hsp] at e2
  refine ⟨q, c, q', c', e.st, e.n, h.good.lt e (List.mem_of_getElem? he), by omega, by rw [← e1]; exact hP.box.cell 1, by rw [← e2]; exact hP.box.cell 2, by rw [x1, v1], by rw [x2, v2], status_in h.is j e he (by rw [h.G]; omega), steps_in h.is j e he (by rw [h.G]; omega)⟩
theorem Asks.len {u : World} {B s g tb bb m : Nat} {S : SS} {R : RS} {V : RV} {tv : Value} {told : List Bool} (h : Asks u B s g tb bb m S R V tv told) : ∃ a c, u.cell? ⟨g, 1, none⟩ = some (.slice a m c) := by
  obtain ⟨P, hP⟩ := h.rb
  obtain ⟨a, c, hv⟩ := ownsRow_slice hP.rs
  refine ⟨a, c, ?_⟩
  rw [show u.cell? ⟨g, 1, none⟩ = some V.vs from hP.box.cell 1, hv, h.al.st, List.length_map, h.is.len, h.G]
theorem Asks.none {u : World} {B s g tb bb m : Nat} {S : SS} {R : RS} {V : RV} {tv : Value} {told : List Bool} (h : Asks u B s g tb bb m S R V tv told) (id : Int) (hi : id < 1 ∨ (m : Int) < id) : (Calls Try.prog 21 #[ptr s, .int .i64 id] u fun r w' => r = .returned (.int .u8 0) ∧ w' = u) ∧ (Calls Try.prog 22 #[ptr s, .int .i64 id] u fun r w' => r = .returned (.int .i64 0) ∧ w' = u) :=
  ⟨status_no (find_out h.is id (by rw [h.G]; exact hi)), steps_no (find_out h.is id (by rw [h.G]; exact hi))⟩
end Go.Proofs.Ytjhhncbadkpbaaa
