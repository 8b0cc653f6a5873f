/-
  Put and Get in one form each: what comes back, as lists in memory.
-/
import Derived.Test.YtghcmlkgpedkkaaPutL
import Derived.Test.YtghcmlkgpedkkaaHead
import Derived.Test.YtghcmlkgpedkkaaByte
namespace Go.Proofs.Ytghcmlkgpedkkaa
open Go.RowKit

theorem owns_cells {w : World} {B e size n m : Nat} {a : Option Addr} {c : Nat} {xs : List Value} (ho : w.ownsRow B e size (.slice a n c) m xs) (h0 : 0 < m) :
    ∃ g, a = some ⟨g, 0, none⟩ ∧ B ≤ g ∧ (∃ cur, Box w g cur e) ∧ ∀ j, j < m * size → w.cell? ⟨g, j, none⟩ = xs[j]? := by
  rcases ho.2 with ⟨h1, h2⟩ | ⟨g, cap, cur, h1, hBg, hg2, hnc, hcm, hcs, ht⟩
  · omega
  · injection h1 with h1
    subst h1
    have hB : Box w g cur e := hg2
    refine ⟨g, rfl, hBg, ⟨cur, hB⟩, fun j hj => ?_⟩
    rw [hB.cell j, ← ht, List.getElem?_take, if_pos hj]
    simp
theorem imgs_of {w : World} {B m : Nat} {a : Option Addr} {n c : Nat} {qs : List GG} (ho : w.ownsRow B 38 2 (.slice a n c) m (imgC qs)) (hj : GetJ B w qs) (hm : qs.length = m) : Imgs w a (qs.map fun p => (p.b, p.xs)) := fun h0 => by
  have hq : 0 < qs.length := by simpa using h0
  obtain ⟨g, rfl, _, _, hc⟩ := owns_cells ho (by omega)
  refine ⟨g, 0, rfl, fun j hjl => ?_⟩
  have hjq : j < qs.length := by simpa using hjl
  obtain ⟨q1, _, q3⟩ := hj.rows qs[j] (List.getElem_mem hjq)
  obtain ⟨k0, k1⟩ := imgC_at qs j hjq
  have q4 := q1
  obtain ⟨cur, hb, p1, p2, _⟩ := q4
  rw [List.getElem_map]
  refine ⟨?_, some ⟨(qs[j]).h, 0, none⟩, (qs[j]).c, ?_, p1, cap_le p2, fun h => (by cases h), q1.rd⟩
  · show w.cell? ⟨g, 0 + j * 2, none⟩ = _
    rw [Nat.zero_add, hc _ (by omega), k0]
  · show w.cell? ⟨g, 0 + j * 2 + 1, none⟩ = some (.slice (some ⟨(qs[j]).h, 0, none⟩) (qs[j]).xs.length (qs[j]).c)
    rw [Nat.zero_add, hc _ (by omega), k1, q3]
theorem lsts_of {w : World} {B m : Nat} {a : Option Addr} {n c : Nat} {qs : List GG} (ho : w.ownsRow B 31 1 (.slice a n c) m (lstC qs)) (hj : GetJ B w qs) (hm : qs.length = m) : Lsts w a (qs.map GG.xs) := fun h0 => by
  have hq : 0 < qs.length := by simpa using h0
  obtain ⟨g, rfl, _, _, hc⟩ := owns_cells ho (by omega)
  refine ⟨g, 0, rfl, fun j hjl => ?_⟩
  have hjq : j < qs.length := by simpa using hjl
  obtain ⟨q1, _, q3⟩ := hj.rows qs[j] (List.getElem_mem hjq)
  rw [List.getElem_map]
  refine lst_row ?_ q1 q3
  rw [Nat.zero_add, hc j (by omega)]
  simp [lstC, hjq]

/-- what Put leaves -/
def PutR (w : World) (e s : Int) (is : List (Int × List UInt8)) (n : Nat) (r : Ending) (w' : World) : Prop :=
  (∃ (E S : Nat), e = (E : Int) ∧ s = (S : Int) ∧ okGroup E S is ∧ ∃ gl cl, r = .returned (.tuple #[.slice (some ⟨gl, 0, none⟩) (n + 1) cl, .int .i64 0]) ∧ Lsts w' (some ⟨gl, 0, none⟩) (putL E S is) ∧ Below w.heap.size w w') ∨
  (¬ okGroup e s is ∧ r = .returned (.tuple #[.slice none 0 0, .int .i64 80]) ∧ Below w.heap.size w w')
theorem putG_any (e s : Int) (a : Option Addr) (n cap : Nat) (is : List (Int × List UInt8)) (w : World) (hl : is.length = n) (hn : n * 32 ≤ 140737488355328) (hI : Imgs w a is) :
    Calls Try.prog 7 #[.agg #[.int .i64 e, .int .i64 s, .slice a n cap]] w (PutR w e s is n) := by
  by_cases hok : okGroup e s is
  · have hst := (okStamp_iff _ _).1 hok.1.1
    obtain ⟨E, rfl⟩ : ∃ E : Nat, e = (E : Int) := ⟨e.toNat, by omega⟩
    obtain ⟨S, rfl⟩ : ∃ S : Nat, s = (S : Int) := ⟨s.toNat, by omega⟩
    have hlen := is_length hok
    refine (put_in E S a n cap is w hl hI hok (by omega) (by omega)).mono ?_
    rintro r w' ⟨gl, cl, h0, ps, rfl, hgl, ho, hr, _, _, hj, hm, b⟩
    subst hl
    exact .inl ⟨E, S, rfl, rfl, hok, gl, cl, rfl, put_lsts rfl hok ho hr hj hm, b⟩
  · refine (put_no e s a n cap is w hl hn hI hok).mono ?_
    rintro r w' ⟨rfl, b⟩
    exact .inr ⟨hok, rfl, b⟩
theorem putL_length (e s : Nat) (is : List (Int × List UInt8)) : (putL e s is).length = is.length + 1 := by simp [putL]
/-- what was put is got -/
theorem get_put (E S : Nat) (is : List (Int × List UInt8)) (a : Option Addr) (m n cap : Nat) (w : World) (hok : okGroup E S is) (hm : is.length = m) (hn : n = m + 1) (hL : Lsts w a (putL E S is)) :
    Calls Try.prog 11 #[.slice a n cap] w fun r w' => ∃ a9 c9, r = .returned (.tuple #[.agg #[.int .i64 (E : Int), .int .i64 (S : Int), .slice a9 m c9], .int .i64 0]) ∧ Imgs w' a9 is ∧ Below w.heap.size w w' := by
  subst hm hn
  have hlen := is_length hok
  refine (get_in a (is.length + 1) cap (putL E S is) w (putL_length _ _ _) (by omega) (by omega) hL).mono ?_
  intro r w' hG
  obtain ⟨q1, q2, q3⟩ := put_said hok
  have e0 : (putL E S is)[0]?.getD [] = headB E S (entL (mark E S) is) := rfl
  rcases hG with ⟨_, a9, c, ps, h1, h2, h3, h4, h5⟩ | ⟨h1, _⟩
  · rw [e0, q1, q2, q3, entL_length] at h1
    rw [e0, q3, entL_length] at h2 h4
    rw [put_imgs hok] at h4
    refine ⟨a9, c, h1, ?_, h5⟩
    have := imgs_of h2 h3 (by rw [← h4]; simp)
    rwa [h4] at this
  · exact absurd (put_grp hok) h1
theorem get_no (a : Option Addr) (n cap : Nat) (ls : List (List UInt8)) (w : World) (hl : ls.length = n) (h0 : 0 < n) (hn : n ≤ 1000000000) (hL : Lsts w a ls) (hno : ¬ isGrp ls) :
    Calls Try.prog 11 #[.slice a n cap] w fun r w' => r = .returned (.tuple #[.agg #[.int .i64 0, .int .i64 0, .slice none 0 0], .int .i64 80]) ∧ Below w.heap.size w w' := by
  refine (get_in a n cap ls w hl h0 hn hL).mono ?_
  rintro r w' (⟨h1, _⟩ | ⟨_, h2, h3⟩)
  · exact absurd h1 hno
  · exact ⟨h2, h3⟩
/-- a row of slices stays when a byte is written -/
theorem owns_byte {w : World} {B n g j : Nat} {v : Value} {cs : List Value} {c : Nat} {ys : List UInt8} (ho : w.ownsRow B 31 1 v n cs) (hr : RowB w g c ys) (u : Value) : (w.setCell ⟨g, j, none⟩ u).ownsRow B 31 1 v n cs := by
  refine owns_grown ho (grown_store w g j u) (fun k hk e => ?_)
  injection e with e
  subst e
  obtain ⟨_, cur, hb⟩ := owns_block ho _ hk
  obtain ⟨cur2, hb2, _⟩ := hr
  exact Box.ne hb2 hb (by decide) rfl
theorem RowB.cellAt {w : World} {g c j : Nat} {ys : List UInt8} (h : RowB w g c ys) (hj : j < ys.length) : w.cell? ⟨g, j, none⟩ = some (.int .u8 (ys[j].toNat : Int)) ∧ w.frozen? ⟨g, j, none⟩ = false := by
  obtain ⟨g', o, e, hc⟩ := h.rd (by omega)
  simp at e
  obtain ⟨rfl, rfl⟩ := e
  have := hc j hj
  rw [Nat.zero_add] at this
  obtain ⟨cur, hb, _⟩ := h
  exact ⟨this, hb.frozen j⟩
end Go.Proofs.Ytghcmlkgpedkkaa
