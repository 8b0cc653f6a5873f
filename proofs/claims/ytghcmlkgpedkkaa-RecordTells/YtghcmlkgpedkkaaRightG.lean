/-
  rightHeading, of any heading; rightGroup.
-/
import Derived.Test.YtghcmlkgpedkkaaRightH
namespace Go.Proofs.Ytghcmlkgpedkkaa
open Go.RowKit

theorem owns_belowH {w w' : World} {base e size n : Nat} {v : Value} {xs : List Value} (h : w.ownsRow base e size v n xs) (hb : Below w.heap.size w w') : w'.ownsRow base e size v n xs := by
  refine ⟨h.1, ?_⟩
  rcases h.2 with h | ⟨g, cap, cur, e1, e2, e3, e4⟩
  · exact .inl h
  · exact .inr ⟨g, cap, cur, e1, e2, (hb.block g (Array.getElem?_eq_some_iff.1 e3).1).trans e3, e4⟩

set_option maxRecDepth 100000 in
theorem rightHeading_at (e s : Int) (a : Option Addr) (n cap : Nat) (bs : List Int) (w : World) (hl : bs.length = n) (hB : Blks w a bs) :
    Calls Try.prog 47 #[.agg #[.int .i64 e, .int .i64 s, .slice a n cap]] w fun r w' => ∃ q : Bool, r = .returned (.bool q) ∧ (q = true ↔ okHead e s bs) ∧ Below w.heap.size w w' := by
  have B0 := (Below.refl w.heap.size w).alloc (Nat.le_refl _) (.cells #[.int .i64 e, .int .i64 s, .slice a n cap] 57)
  cases hok : okStamp e s with
  | false =>
    have c1 : ∀ u, Calls Try.prog 38 #[.int .i64 e, .int .i64 s] u fun x w' => x = .returned (.bool false) ∧ u = w' := fun u => by have := rightStamp_at e s u; rw [hok] at this; exact this
    have hno : Hid (¬ okHead e s bs) := fun h => by rw [h.1] at hok; cases hok
    clear hok hB
    go_enter Try.func47, Try.ntmps47
    go_wp2_with fail
    refine (c1 _).mono ?_
    rintro r w' ⟨rfl, rfl⟩
    go_wp2
    go_ret
    exact ⟨false, rfl, ⟨fun h => (by cases h), fun h => (hno.out h).elim⟩, B0⟩
  | true =>
    by_cases hn : 1 ≤ n ∧ n ≤ 32
    · refine (rightHeading_in e s a n cap bs w hl hn.1 hn.2 hok hB).mono ?_
      rintro r w' ⟨q, rfl, hq, hb⟩
      refine ⟨q, rfl, hq.trans ⟨fun h => ⟨hok, by rw [hl]; exact hn, by rw [hl]; exact h⟩, fun h => by have := h.2.2; rw [hl] at this; exact this⟩, hb⟩
    · have c1 : ∀ u, Calls Try.prog 38 #[.int .i64 e, .int .i64 s] u fun x w' => x = .returned (.bool true) ∧ u = w' := fun u => by have := rightStamp_at e s u; rw [hok] at this; exact this
      have c2 : ∀ u, Calls Try.prog 41 #[.int .i64 (n : Int), .int .i64 1, .int .i64 32] u fun x w' => x = .returned (.bool false) ∧ u = w' := fun u => by
        have := within_at (n : Int) 1 32 u
        have e : (decide ((1 : Int) ≤ n) && decide ((n : Int) ≤ 32)) = false := by simp; omega
        rw [e] at this
        exact this
      have hno : Hid (¬ okHead e s bs) := fun h => hn (by have := h.2.1; rw [hl] at this; exact this)
      clear hok hB hn
      go_enter Try.func47, Try.ntmps47
      go_wp2_with fail
      refine (c1 _).mono ?_
      rintro r w' ⟨rfl, rfl⟩
      go_wp2_with fail
      refine (c2 _).mono ?_
      rintro r w' ⟨rfl, rfl⟩
      go_wp2
      go_ret
      exact ⟨false, rfl, ⟨fun h => (by cases h), fun h => (hno.out h).elim⟩, B0⟩

/-- an image lies here -/
def ImgAt (w : World) (b o : Nat) (i : Int × List UInt8) : Prop :=
  w.cell? ⟨b, o, none⟩ = some (.int .i64 i.1) ∧ ∃ x c, w.cell? ⟨b, o + 1, none⟩ = some (.slice x i.2.length c) ∧ i.2.length ≤ c ∧ c ≤ 9223372036854775807 ∧ (x = none → c = 0) ∧ Rd w x i.2
/-- images, one behind the other -/
def Imgs (w : World) (a : Option Addr) (is : List (Int × List UInt8)) : Prop :=
  0 < is.length → ∃ b o, a = some ⟨b, o, none⟩ ∧ ∀ j (h : j < is.length), ImgAt w b (o + j * 2) is[j]
theorem ImgAt.below {w w' : World} {b o : Nat} {i : Int × List UInt8} (h : ImgAt w b o i) (hb : Below w.heap.size w w') : ImgAt w' b o i := by
  obtain ⟨h1, x, c, h2, h3, h4, h5, h6⟩ := h
  have hlt : b < w.heap.size := block_lt_of_cell h1
  exact ⟨(hb.cell (p := ⟨b, o, none⟩) hlt).trans h1, x, c, (hb.cell (p := ⟨b, o + 1, none⟩) hlt).trans h2, h3, h4, h5, h6.below hb (Nat.le_refl _)⟩
theorem Imgs.below {w w' : World} {a : Option Addr} {is : List (Int × List UInt8)} (h : Imgs w a is) (hb : Below w.heap.size w w') : Imgs w' a is := fun hp => by
  obtain ⟨b, o, ha, hc⟩ := h hp
  exact ⟨b, o, ha, fun j hj => (hc j hj).below hb⟩

def blkCells (bs : List Int) : List Value := bs.flatMap fun b => [.int .i64 b, .slice none 0 0]
theorem blkCells_at (bs : List Int) (i : Nat) (h : i < bs.length) : (blkCells bs)[i * 2]? = some (.int .i64 bs[i]) ∧ (blkCells bs)[i * 2 + 1]? = some (.slice none 0 0) := by
  induction bs generalizing i with
  | nil => simp at h
  | cons b bs ih =>
    cases i with
    | zero => exact ⟨rfl, rfl⟩
    | succ i =>
      obtain ⟨p, q⟩ := ih i (by simpa using h)
      have e1 : (i + 1) * 2 = i * 2 + 1 + 1 := by omega
      simp only [blkCells, List.flatMap_cons, e1, List.cons_append, List.nil_append, List.getElem?_cons_succ, List.getElem_cons_succ]
      exact ⟨p, q⟩

def okGroup (e s : Int) (is : List (Int × List UInt8)) : Prop := okHead e s (is.map (·.1)) ∧ ∀ i ∈ is, i.2.length = 4096

set_option maxRecDepth 100000 in
set_option maxHeartbeats 4000000 in
theorem rightGroup_at (e s : Int) (a : Option Addr) (n cap : Nat) (is : List (Int × List UInt8)) (w : World) (hl : is.length = n) (hn : n * 32 ≤ 140737488355328) (hI : Imgs w a is) :
    Calls Try.prog 29 #[.agg #[.int .i64 e, .int .i64 s, .slice a n cap]] w fun r w' => ∃ q : Bool, r = .returned (.bool q) ∧ (q = true ↔ okGroup e s is) ∧ Below w.heap.size w w' := by
  obtain ⟨i0, hi, hz0, hz1, hz2⟩ := info_parts info62
  have HL : Hid _ := hl
  have HI : Hid _ := hI
  clear hl hI
  have b0 := Box.new (w.alloc (.cells #[.int .i64 e, .int .i64 s, .slice a n cap] 28)) #[.int .i64 e, .int .i64 s, .slice none 0 0] 57
  have s1 : (w.alloc (.cells #[.int .i64 e, .int .i64 s, .slice a n cap] 28)).heap.size = w.heap.size + 1 := by simp
  rw [s1] at b0
  have B0 := ((Below.refl w.heap.size w).alloc (Nat.le_refl _) (.cells #[.int .i64 e, .int .i64 s, .slice a n cap] 28)).alloc (by simp) (.cells #[.int .i64 e, .int .i64 s, .slice none 0 0] 57)
  clear s1
  go_enter Try.func29, Try.ntmps29
  go_wp2_with fail
  go_loopw [14] (fun i wr => ∃ k : Nat, k ≤ n ∧ i = .int .i64 k ∧ (∀ x ∈ is.take k, x.2.length = 4096) ∧ (∃ v, Box wr (w.heap.size + 1) #[.int .i64 e, .int .i64 s, v] 57 ∧ wr.ownsRow w.heap.size 62 2 v k (blkCells ((is.take k).map (·.1)))) ∧ Below w.heap.size w wr) (fun i _ => n - (intOf i).toNat)
  case atStart => exact ⟨0, Nat.zero_le _, rfl, by simp, ⟨_, b0, World.ownsRow_nil _ _ _ _⟩, B0⟩
  case round =>
    obtain ⟨k, hk, rfl, hall, ⟨v, bv, hown⟩, hB⟩ := hrel
    clear b0 B0
    by_cases hlt : k < n
    · have hlt2 : (k : Int) < n := by omega
      have hkl : k < is.length := by rw [HL.out]; exact hlt
      obtain ⟨b, o, rfl, hc⟩ := HI.out (by omega)
      obtain ⟨q1, x, c, q2, q3, q4, q5, q6⟩ := (hc k hkl).below hB
      have htk := List.take_succ_eq_append_getElem hkl
      generalize is[k] = I at q1 q2 q3 q6 htk
      obtain ⟨ib, dat⟩ := I
      dsimp only at q1 q2 q3 q6
      have HT : Hid _ := htk
      clear htk hc q5 q6
      obtain ⟨L, hLL⟩ : ∃ L, L = dat.length := ⟨_, rfl⟩
      rw [← hLL] at q2 q3
      have HLL : Hid _ := hLL
      clear hLL
      have al := (Below.refl wr.heap.size wr).alloc (Nat.le_refl _) (.cells #[.int .i64 ib, .slice x L c] 38)
      have bx := Box.new wr #[.int .i64 ib, .slice x L c] 38
      have x0 := bx.cell 0
      have x1 := bx.cell 1
      have bv1 := bv.below al
      have own1 := owns_belowH hown al
      have B1 := hB.trans (al.mono hB.size)
      obtain ⟨av, cv, rfl⟩ := owns_shape hown
      by_cases hL : L = 4096
      · have hne : ((L : Int) != 4096) = false := by rw [hL]; rfl
        have HL4 : Hid _ := hL
        have y2w := bv.cell 2
        have ltw := bv.lt
        clear hL bv hown hB
        have y2 : (wr.alloc (.cells #[.int .i64 ib, .slice x L c] 38)).cell? ⟨w.heap.size + 1, 2, none⟩ = some (.slice av k cv) := bv1.cell 2
        have bA := (Below.refl _ (wr.alloc (.cells #[.int .i64 ib, .slice x L c] 38))).alloc (Nat.le_refl _) (.cells #[.int .i64 ib, .slice none 0 0] 62)
        have bE := Box.new (wr.alloc (.cells #[.int .i64 ib, .slice x L c] 38)) #[.int .i64 ib, .slice none 0 0] 62
        have sE : (wr.alloc (.cells #[.int .i64 ib, .slice x L c] 38)).heap.size = wr.heap.size + 1 := by simp
        rw [sE] at bE
        have own2 := owns_belowH own1 bA
        have bv2 := bv1.below bA
        have B2 := B1.trans (bA.mono B1.size)
        go_wp2_with (at_builtin; refine wpList_append_own _ rfl _ _ 55 rfl w.heap.size 62 i0 (.agg #[.int .i64 0, .slice none 0 0]) 2 32 Try.underlying55 hi hz0 hz1 hz2 rfl (by decide) _ k _ rfl own2 ⟨wr.heap.size + 1, 0, none⟩ 1 1 [.int .i64 ib, .slice none 0 0] rfl rfl (two_cells bE) ?c2 ?c3 ?c4 B2.size ?_)
        case c2 => intro u hu; simp at hu; rcases hu with rfl | rfl <;> rfl
        case c3 => unfold maxLen; omega
        case c4 => omega
        · intro v' w4 hown4 hgrow _
          have B4 := B2.grown hgrow B2.size (fun j e => (owns_block own2 j e).1)
          have bv4 : Box w4 (w.heap.size + 1) _ 57 := bv2.grown hgrow (fun e => by
            obtain ⟨_, cur, q⟩ := owns_block own2 _ e
            exact q.ne bv2 (by decide) rfl)
          have f4 := bv4.frozen 2
          have y4 := bv4.cell 2
          have bv5 := bv4.store 2 v'
          have B5 := B4.setCell (p := ⟨w.heap.size + 1, 2, none⟩) (by simp) v'
          have hown5 : (w4.setCell ⟨w.heap.size + 1, 2, none⟩ v').ownsRow w.heap.size 62 2 v' (k + 1) _ := owns_grown hown4 (grown_store w4 (w.heap.size + 1) 2 v') (fun g' e => by
            obtain ⟨_, cur, q⟩ := owns_block hown4 g' e
            intro e2
            cases e2
            exact q.ne bv4 (by decide) rfl)
          obtain ⟨av', cv', rfl⟩ := owns_shape hown4
          clear hgrow own1 own2 bx x0 bv1 bv2 bv4 B1 B2 B4 al bA bE hown4
          go_wp2
          go_roundw
          case rel =>
            refine ⟨k + 1, by omega, by go_num, ?_, ⟨_, by simpa using bv5, ?_⟩, B5⟩
            · rw [HT.out]
              intro z hz
              rcases List.mem_append.1 hz with h | h
              · exact hall z h
              · simp at h
                subst h
                show dat.length = 4096
                rw [← HLL.out]
                exact HL4.out
            · rw [HT.out]
              have e : blkCells ((is.take k ++ [(ib, dat)]).map (·.1)) = blkCells ((is.take k).map (·.1)) ++ [.int .i64 ib, .slice none 0 0] := by simp [blkCells]
              rw [e]
              simpa [List.map_take] using hown5
          case measure => simp [intOf]; omega
      · have hne : ((L : Int) != 4096) = true := by simp; omega
        have hno : Hid (¬ okGroup e s is) := fun h => hL (by
          have := h.2 (ib, dat) (by
            have h2 : (ib, dat) ∈ is.take (k + 1) := by rw [HT.out]; simp
            exact List.mem_of_mem_take h2)
          rw [HLL.out]
          exact this)
        clear hL bv hown hB own1 bv1
        go_wp2
        go_ret
        exact ⟨false, rfl, ⟨fun h => (by cases h), fun h => (hno.out h).elim⟩, B1⟩
    · obtain rfl : k = n := by omega
      have htk : is.take k = is := List.take_of_length_le (by rw [HL.out]; omega)
      rw [htk] at hall hown
      obtain ⟨av, cv, rfl⟩ := owns_shape hown
      have y0 := bv.cell 0
      have y1 := bv.cell 1
      have y2 := bv.cell 2
      have hbk : Blks wr av (is.map (·.1)) := fun hp => by
        rw [List.length_map] at hp
        rcases hown.2 with ⟨hv, hn⟩ | ⟨gv, cap', cur, hv, _⟩
        · have := HL.out; omega
        · have ha : av = some ⟨gv, 0, none⟩ := by simpa using (Value.slice.inj hv).1
          subst ha
          refine ⟨gv, 0, rfl, fun j hj => ?_⟩
          obtain ⟨e1, e2⟩ := blkCells_at (is.map (·.1)) j hj
          have hb : (Value.slice (some ⟨gv, 0, none⟩) k cv).ownBlock = some gv := rfl
          have k1 := hown.cells hb _ _ e1
          have k2 := hown.cells hb _ _ e2
          rw [Addr.add_lit] at k1 k2
          exact ⟨k1, _, _, _, by rw [Nat.add_assoc]; exact k2⟩
      have cH := rightHeading_at e s av k cv (is.map (·.1)) wr (by rw [List.length_map]; exact HL.out) hbk
      clear hown bv hbk htk
      go_wp2_with fail
      refine cH.mono ?_
      rintro r w' ⟨q, rfl, hq, hb⟩
      go_wp2
      go_ret
      exact ⟨q, rfl, hq.trans ⟨fun h => ⟨h, hall⟩, fun h => h.1⟩, hB.trans (hb.mono hB.size)⟩
end Go.Proofs.Ytghcmlkgpedkkaa
