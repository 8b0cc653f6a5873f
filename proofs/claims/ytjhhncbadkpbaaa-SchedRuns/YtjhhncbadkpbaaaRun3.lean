/-
  SchedRuns: one more task for both.
-/
import Derived.Test.YtjhhncbadkpbaaaRun2
import Derived.Test.YtjhhncbadkpbaaaDos
namespace Go.Proofs.Ytjhhncbadkpbaaa
open Go.RowKit
/-- nothing was picked yet -/
def RunA (u : World) (B s g tb bb m : Nat) : Prop := ∃ S R V tv K P, Run u B s g tb bb S R V tv [] K P ∧ S.G.length = m ∧ S.sum = 0 ∧ ∀ e ∈ S.E, e.st = 1
theorem RunA.below {u u' : World} {B s g tb bb m : Nat} (h : RunA u B s g tb bb m) (hb : Below u.heap.size u u') : RunA u' B s g tb bb m := by
  obtain ⟨S, R, V, tv, K, P, h, r⟩ := h
  exact ⟨S, R, V, tv, K, P, h.below hb, r⟩
theorem RunA.hB {u : World} {B s g tb bb m : Nat} (h : RunA u B s g tb bb m) : B ≤ u.heap.size := by
  obtain ⟨S, R, V, tv, K, P, h, r⟩ := h
  exact h.sit.is.hB
theorem RunA.x {u : World} {B s g tb bb m : Nat} (h : RunA u B s g tb bb m) : RunX u B s g tb bb m 0 := by
  obtain ⟨S, R, V, tv, K, P, h, h1, h2, _⟩ := h
  exact ⟨S, R, V, tv, [], K, P, h, h1, by omega, Nat.le_refl _⟩
theorem alv_all : ∀ (E : List En) (G : List Nat), E.length = G.length → (∀ e ∈ E, e.st = 1) → (alv E G).length = G.length
  | [], [], _, _ => rfl
  | [], _ :: _, h, _ => by simp at h
  | _ :: _, [], h, _ => by simp at h
  | e :: E, g :: G, h, h1 => by
    have ih := alv_all E G (by simpa using h) (fun x hx => h1 x (List.mem_cons_of_mem _ hx))
    have he := h1 e (List.mem_cons_self ..)
    unfold alv at ih ⊢
    simp only [List.zip_cons_cons, List.filter_cons, he]
    simpa using ih
theorem Run.cnt {u : World} {B s g tb bb : Nat} {S : SS} {R : RS} {V : RV} {tv : Value} {told : List Bool} {K : List TK} {P : List PV} (h : Run u B s g tb bb S R V tv told K P) (h1 : ∀ e ∈ S.E, e.st = 1) : R.cnt = S.G.length := by
  unfold RS.cnt
  rw [← h.stl]
  have : R.St.filter (· != 3) = R.St := by
    rw [List.filter_eq_self]
    intro x hx
    rw [h.al.st] at hx
    obtain ⟨e, he, rfl⟩ := List.mem_map.1 hx
    rw [h1 e he]
    decide
  rw [this]
/-- the list stands, and is not yet told to the document -/
def Pend (u : World) (B s g tb bb m : Nat) (y : PV) : Prop := ∃ S R V tv K P, Sit u B s S tb bb tv [] false K ∧ RB u B g V R P ∧ Alike S R ∧ R.Sp = S.E.map (·.n) ∧ R.Td = [] ∧ (∀ (i : Nat) (k : TK) (p : PV), K[i]? = some k → (P ++ [y])[i]? = some p → k.xs = p.xs) ∧ P.length + 1 = S.G.length ∧ (∀ p ∈ P ++ [y], ∀ d ∈ p.xs, 0 ≤ d.tell ∧ d.tell < 7) ∧ (∀ k, V.vt.ownBlock = some k → tv.ownBlock ≠ some k ∧ k ≠ bb) ∧ S.G.length = m ∧ S.sum = 0 ∧ (∀ e ∈ S.E, e.st = 1) ∧ DoRow u B y.la y.xs ∧ y.xs.length = y.ln
/-- one that is refused -/
theorem RunA.full {w : World} {B s g tb bb m : Nat} (h : RunA w B s g tb bb m) (hm : m = 64) (t : TypeId) (x : Value) :
    Calls Try.prog 9 #[ptr s, .iface t x] w fun r w1 => r = .returned (.tuple #[.int .i64 0, .int .i64 5]) ∧ w1 = w ∧ Calls Try.prog 13 #[ptr g] w fun r' w2 => r' = .returned (.bool false) ∧ w2 = w := by
  obtain ⟨S, R, V, tv, K, P, h, h1, h2, h3⟩ := h
  refine (add_full h.sit.is (by rw [alv_all _ _ h.sit.is.len h3]; omega) t x).mono ?_
  rintro r w1 ⟨rfl, rfl⟩
  refine ⟨rfl, rfl, (radd_at h.rb (by rw [h.stl]; omega) (by rw [h.spl]; omega) (by have := h.sit.Ll; rw [h.lnl]; omega)).mono ?_⟩
  rintro r w2 (⟨_, rfl, rfl⟩ | ⟨hne, _⟩)
  · exact ⟨rfl, rfl⟩
  · exact absurd (by rw [h.cnt h3]; omega) hne
/-- one that is taken -/
theorem RunA.add {w : World} {B s g tb bb m : Nat} (h : RunA w B s g tb bb m) (hm : m < 64) (la : Option Addr) (lc : Nat) (xs : List Do3) (hd0 : DoRow w B la xs) (hok : ∀ d ∈ xs, 0 ≤ d.tell ∧ d.tell < 7) :
    Calls Try.prog 9 #[ptr s, .iface 47 (ptr w.heap.size)] (w.alloc (.cells (tkC s la xs.length lc 0 tb bb) 51)) fun r w1 => r = .returned (.tuple #[.int .i64 ((m + 1 : Nat) : Int), .int .i64 0]) ∧ Calls Try.prog 13 #[ptr g] w1 fun r' w2 => r' = .returned (.bool true) ∧ Pend w2 B s g tb bb (m + 1) ⟨la, xs.length, lc, xs⟩ ∧ Below B w w2 := by
  have hBw := h.hB
  obtain ⟨S, R, V, tv, K, P, h, h1, h2, h3⟩ := h
  have hlt := tk_lt h.sit
  have hbA : Below w.heap.size w (w.alloc (.cells (tkC s la xs.length lc 0 tb bb) 51)) := (Below.refl _ _).alloc (Nat.le_refl _) _
  have hx := Box.new w (tkC s la xs.length lc 0 tb bb) 51
  replace h := h.below hbA
  have hd : DoRow (w.alloc (.cells (tkC s la xs.length lc 0 tb bb) 51)) B la xs := hd0.keep (hbA.mono hBw) (fun _ _ x => x.below hbA x.lt)
  obtain ⟨k, hk⟩ : ∃ k : TK, k = ⟨w.heap.size, la, lc, xs⟩ := ⟨_, rfl⟩
  have e1 : w.heap.size = k.tg := by rw [hk]
  have e2 : la = k.la := by rw [hk]
  have e3 : lc = k.lc := by rw [hk]
  have e4 : xs = k.xs := by rw [hk]
  clear hk
  have hbB : Below B w (w.alloc (.cells (tkC s la xs.length lc 0 tb bb) 51)) := hbA.mono hBw
  generalize w.alloc (.cells (tkC s la xs.length lc 0 tb bb) 51) = wt at *
  subst e2 e3 e4
  rw [e1] at hx hlt ⊢
  refine (h.sit.add (by rw [alv_all _ _ h.sit.is.len h3]; omega) (by omega) k hx hd (by omega) (fun l hl e => by have := hlt l hl; omega)).mono ?_
  rintro r w1 ⟨g', rfl, hs, hb, hkt⟩
  have rb1 := h.rbKeep hb (fun k cs t x hp _ => hkt k cs t x hp)
  refine ⟨by rw [h1], (radd_at rb1 (by rw [h.stl]; omega) (by rw [h.spl]; omega) (by have := h.sit.Ll; rw [h.lnl]; omega)).mono ?_⟩
  rintro r w2 (⟨h64, _⟩ | ⟨_, rfl, hT⟩)
  · exact absurd (by rw [← h64, h.cnt h3, h1]) (show ¬ m = 64 by omega)
  obtain ⟨hs2, V', rb2, ap2⟩ := sitKeep hs rb1 h.ap hT
  obtain ⟨a1, a2⟩ := h.al.add h.sp h.sit.is.len h.sit.nw g' (.iface 47 (ptr k.tg)) (R' := R.add) rfl rfl rfl rfl rfl
  have hd1 := hd.keep hb (fun _ _ x => hkt _ _ _ x oth45)
  have hd2 : DoRow w2 B k.la k.xs := hd1.keep hT.bel (fun _ _ x => hT.kt _ _ _ x trivial (rb1.notMine x))
  refine ⟨rfl, ⟨S.add g' (.iface 47 (ptr k.tg)), R.add, V', tv, K ++ [k], P, hs2, rb2, a1, a2, h.td, fun i k' p h4 h5 => ?_, by simp [SS.add, h.pl], fun p hp d hdd => ?_, ap2, by simp [SS.add, h1], ?_, ?_, hd2, rfl⟩, (hbB.trans hb).trans hT.bel⟩
  · have hKl : K.length = P.length := by rw [h.sit.hlen, h.pl]
    by_cases hi : i < K.length
    · rw [List.getElem?_append_left hi] at h4
      rw [List.getElem?_append_left (by omega)] at h5
      exact h.kp i k' p h4 h5
    · have hi2 : i = K.length := by
        have := (List.getElem?_eq_some_iff.1 h4).1
        simp at this
        omega
      subst hi2
      rw [List.getElem?_append_right (Nat.le_refl _), Nat.sub_self] at h4
      rw [List.getElem?_append_right (by omega), hKl, Nat.sub_self] at h5
      simp at h4 h5
      rw [← h4, ← h5]
  · rcases List.mem_append.1 hp with h4 | h4
    · exact h.ok p h4 d hdd
    · simp at h4; subst h4; exact hok d hdd
  · unfold SS.sum at h2 ⊢
    simp [SS.add, h2]
  · intro e he
    rcases List.mem_append.1 (show e ∈ S.E ++ [⟨.iface 47 (ptr k.tg), 1, 0⟩] from he) with h4 | h4
    · exact h3 e h4
    · simp at h4; rw [h4]
/-- and the document is told its list -/
theorem Pend.app {w : World} {B s g tb bb m : Nat} {y : PV} (h : Pend w B s g tb bb m y) : ∃ (av : Option Addr) (n cv : Nat) (xs : List Value), w.cell? ⟨g, 0, none⟩ = some (.slice av n cv) ∧ w.frozen? ⟨g, 0, none⟩ = false ∧ n < m ∧ B ≤ w.heap.size ∧ (w.alloc (.cells #[.slice y.la y.ln y.lc] 43)).ownsRow B 43 1 (.slice av n cv) n xs ∧
    ∀ v' w4, w4.ownsRow B 43 1 v' (n + 1) (xs ++ [.slice y.la y.ln y.lc]) → (w.alloc (.cells #[.slice y.la y.ln y.lc] 43)).grownBy w4 (Value.slice av n cv).ownBlock → (v'.ownBlock = (Value.slice av n cv).ownBlock ∨ v'.ownBlock = some (w.alloc (.cells #[.slice y.la y.ln y.lc] 43)).heap.size) → (w4.cell? ⟨g, 0, none⟩ = some (.slice av n cv) ∧ w4.frozen? ⟨g, 0, none⟩ = false) ∧ RunA (w4.setCell ⟨g, 0, none⟩ v') B s g tb bb m ∧ Below B w (w4.setCell ⟨g, 0, none⟩ v') := by
  obtain ⟨S, R, V, tv, K, P, hs, hr, al, sp, td, kp, pl, ok, ap, hm, hsum, h1, hd, hl⟩ := h
  obtain ⟨av, cv, hv⟩ := ownsRow_slice hr.rp
  have hc : w.cell? ⟨g, 0, none⟩ = some V.vp := hr.box.cell 0
  refine ⟨av, P.length, cv, psC P, by rw [hc, hv], hr.box.frozen 0, by omega, hr.hB, by rw [← hv]; exact hr.rp.alloc _, fun v' w4 ho hg hw => ?_⟩
  rw [← hv] at hg hw
  obtain ⟨hR, hF, hT, hbx, _⟩ := hr.vpApp y ⟨hd, hl⟩ v' w4 ho hg hw
  obtain ⟨hs2, V', rb2, ap2⟩ := sitKeep hs hr ap hT
  refine ⟨⟨by rw [← hv]; exact hbx.cell 0, hbx.frozen 0⟩, ⟨S, R, V', tv, K, P ++ [y], ⟨hs2, rb2, al, sp, td, kp, by simp; omega, ok, ap2⟩, hm, hsum, h1⟩, hT.bel⟩
/-- at the beginning -/
theorem runStart (w : World) (B : Nat) (hB : B ≤ w.heap.size) : Calls Try.prog 8 #[] (((w.alloc (.cells #[.slice none 0 0, .slice none 0 0, .slice none 0 0, .slice none 0 0, .slice none 0 0, .bool false, .int .i64 0] 42)).alloc (.cells #[.slice none 0 0] 25)).alloc (.cells #[.bool false] 4)) fun r w' => r = .returned (ptr (w.heap.size + 3)) ∧ RunA w' B (w.heap.size + 3) w.heap.size (w.heap.size + 1) (w.heap.size + 2) 0 ∧ Below B w w' := by
  have x := Box.new w #[.slice none 0 0, .slice none 0 0, .slice none 0 0, .slice none 0 0, .slice none 0 0, .bool false, .int .i64 0] 42
  have b0 := (Below.refl w.heap.size w).alloc (Nat.le_refl _) (.cells #[.slice none 0 0, .slice none 0 0, .slice none 0 0, .slice none 0 0, .slice none 0 0, .bool false, .int .i64 0] 42)
  have e1 : (w.alloc (.cells #[.slice none 0 0, .slice none 0 0, .slice none 0 0, .slice none 0 0, .slice none 0 0, .bool false, .int .i64 0] 42)).heap.size = w.heap.size + 1 := by simp
  obtain ⟨wa, hwa⟩ : ∃ wa, wa = w.alloc (.cells #[.slice none 0 0, .slice none 0 0, .slice none 0 0, .slice none 0 0, .slice none 0 0, .bool false, .int .i64 0] 42) := ⟨_, rfl⟩
  rw [← hwa] at x b0 e1 ⊢
  refine (new_sit wa B (by omega)).mono ?_
  rintro r w' ⟨rfl, hs, hb⟩
  rw [e1] at hs
  have x' := x.below hb x.lt
  refine ⟨by rw [e1], ⟨SS0, ⟨[], [], [], [], false, 0⟩, ⟨.slice none 0 0, .slice none 0 0, .slice none 0 0, .slice none 0 0, .slice none 0 0⟩, .slice none 0 0, [], [], ⟨hs, ⟨hB, x', World.ownsRow_nil _ _ _ _, World.ownsRow_nil _ _ _ _, World.ownsRow_nil _ _ _ _, World.ownsRow_nil _ _ _ _, World.ownsRow_nil _ _ _ _, ?_, ?_, ?_, ?_⟩, ⟨rfl, rfl, rfl, rfl, ?_⟩, rfl, rfl, ?_, rfl, ?_, ?_⟩, rfl, rfl, ?_⟩, (b0.mono hB).trans (hb.mono (by omega))⟩
  all_goals intros
  all_goals simp_all [SS0, Value.ownBlock]
end Go.Proofs.Ytjhhncbadkpbaaa
