/-
  RcRightH, RcRightG, RcPutB, RcBodyOf, RcGetH, RcUnhide, RcGetB, RcHead, RcCat, RcGrp, RcMix, RcSame, RcLow, RcCopyL, RcPutL, RcByte, RcAny, RcMade: put together.
-/
import Derived.Test.YtnldkpckojhbhaaGreatG2
import Derived.BigQuiet
import Derived.Deep.QuietTactic
/-
  rightHeading.
-/
namespace Go.Proofs.YtnldkpckojhbhaaGreat.Rc
open Go.RowKit

def Blks (w : World) (a : Option Addr) (bs : List Int) : Prop :=
  0 < bs.length → ∃ b o, a = some ⟨b, o, none⟩ ∧ ∀ j (h : j < bs.length), w.cell? ⟨b, o + j * 2, none⟩ = some (.int .i64 bs[j]) ∧ ∃ x l c, w.cell? ⟨b, o + j * 2 + 1, none⟩ = some (.slice x l c)
theorem Blks.below {w w' : World} {a : Option Addr} {bs : List Int} (h : Blks w a bs) (hb : Below w.heap.size w w') : Blks w' a bs := fun hp => by
  obtain ⟨b, o, ha, hc⟩ := h hp
  refine ⟨b, o, ha, fun j hj => ?_⟩
  obtain ⟨h1, x, l, c, h2⟩ := hc j hj
  have hlt : b < w.heap.size := block_lt_of_cell h1
  exact ⟨(hb.cell (p := ⟨b, o + j * 2, none⟩) hlt).trans h1, x, l, c, (hb.cell (p := ⟨b, o + j * 2 + 1, none⟩) hlt).trans h2⟩
theorem Ents.blks {w : World} {a : Option Addr} {es : List (Nat × List UInt8)} (h : Ents w a es) : Blks w a (es.map fun e => (e.1 : Int)) := fun hp => by
  rw [List.length_map] at hp
  obtain ⟨b, o, ha, hc⟩ := h hp
  refine ⟨b, o, ha, fun j hj => ?_⟩
  rw [List.length_map] at hj
  obtain ⟨h1, g, q, c, h2, _⟩ := hc j hj
  exact ⟨by rw [List.getElem_map]; exact h1, _, _, _, h2⟩

def okTo (bs : List Int) (k : Nat) : Prop := ∀ j (h : j < bs.length), j < k → (0 ≤ bs[j] ∧ bs[j] ≤ 511) ∧ bs[j] ∉ bs.take j
def okHead (e s : Int) (bs : List Int) : Prop := okStamp e s = true ∧ (1 ≤ bs.length ∧ bs.length ≤ 32) ∧ okTo bs bs.length

def tk (bs : List Int) (k : Nat) : List Bool := (List.range 512).map fun (i : Nat) => decide ((i : Int) ∈ bs.take k)
theorem tk_length (bs : List Int) (k : Nat) : (tk bs k).length = 512 := by simp [tk]
theorem tk_at (bs : List Int) (k m : Nat) (h : m < 512) : (tk bs k)[m]? = some (decide ((m : Int) ∈ bs.take k)) := by simp [tk, h]
theorem tk_set (bs : List Int) (k m : Nat) (hk : k < bs.length) (hm : bs[k] = (m : Int)) (h : m < 512) : (tk bs k).set m true = tk bs (k + 1) := by
  apply List.ext_getElem?
  intro i
  rw [List.getElem?_set]
  by_cases hi : i < 512
  · rw [tk_at bs (k + 1) i hi, tk_at bs k i hi, tk_length, List.take_succ_eq_append_getElem hk, hm]
    by_cases he : m = i
    · subst he
      simp [h]
    · simp [he]
      omega
  · rw [List.getElem?_eq_none (by rw [tk_length]; omega), List.getElem?_eq_none (by rw [tk_length]; omega)]
    split <;> simp_all
def tkc (bs : List Int) (k : Nat) : Array Value := ((tk bs k).map Value.bool).toArray
theorem tkc_zero (bs : List Int) : Tryz.zeroCells311 = tkc bs 0 := by
  have h : Tryz.zeroCells311 = (List.replicate 512 (Value.bool false)).toArray := by kernel_rfl
  rw [h]
  unfold tkc tk
  have e : (fun (i : Nat) => decide ((i : Int) ∈ bs.take 0)) = fun _ => false := by funext i; simp
  rw [e, List.map_const', List.length_range, List.map_replicate]

theorem okTo_succ {bs : List Int} {k : Nat} (hk : k < bs.length) (h : okTo bs k) (h1 : 0 ≤ bs[k] ∧ bs[k] ≤ 511) (h2 : bs[k] ∉ bs.take k) : okTo bs (k + 1) := fun j hj hlt => by
  by_cases he : j < k
  · exact h j hj he
  · obtain rfl : j = k := by omega
    exact ⟨h1, h2⟩

set_option maxRecDepth 100000 in
set_option maxHeartbeats 4000000 in
theorem rightHeading_in (e s : Int) (a : Option Addr) (n cap : Nat) (bs : List Int) (w : World) (hl : bs.length = n) (h1 : 1 ≤ n) (h2 : n ≤ 32) (hok : okStamp e s = true) (hB : Blks w a bs) :
    Calls Tryz.prog 233 #[.agg #[.int .i64 e, .int .i64 s, .slice a n cap]] w fun r w' => ∃ q : Bool, r = .returned (.bool q) ∧ (q = true ↔ okTo bs n) ∧ Below w.heap.size w w' := by
  have c1 : ∀ u, Calls Tryz.prog 267 #[.int .i64 e, .int .i64 s] u fun x w' => x = .returned (.bool true) ∧ u = w' := fun u => by have := rightStamp_at e s u; rw [hok] at this; exact this
  have c2 : ∀ u, Calls Tryz.prog 234 #[.int .i64 (n : Int), .int .i64 1, .int .i64 32] u fun x w' => x = .returned (.bool true) ∧ u = w' := fun u => by
    have := within_at (n : Int) 1 32 u
    have e : (decide ((1 : Int) ≤ n) && decide ((n : Int) ≤ 32)) = true := by simp; omega
    rw [e] at this
    exact this
  obtain ⟨b, o, rfl, hc⟩ := hB (by omega)
  have HC : Hid (∀ j (h : j < bs.length), w.cell? ⟨b, o + j * 2, none⟩ = some (.int .i64 bs[j]) ∧ ∃ x l c, w.cell? ⟨b, o + j * 2 + 1, none⟩ = some (.slice x l c)) := hc
  have hblt : b < w.heap.size := block_lt_of_cell (hc 0 (by omega)).1
  have HL : Hid _ := hl
  clear hc hl hB
  have hz := tkc_zero bs
  have B0 := ((Below.refl w.heap.size w).alloc (Nat.le_refl _) (.cells #[.int .i64 e, .int .i64 s, .slice (some ⟨b, o, none⟩) n cap] 250)).alloc (by simp) (.cells Tryz.zeroCells311 311)
  have bT := Box.new (w.alloc (.cells #[.int .i64 e, .int .i64 s, .slice (some ⟨b, o, none⟩) n cap] 250)) Tryz.zeroCells311 311
  have s1 : (w.alloc (.cells #[.int .i64 e, .int .i64 s, .slice (some ⟨b, o, none⟩) n cap] 250)).heap.size = w.heap.size + 1 := by simp
  rw [s1, hz] at bT
  rw [hz] at B0
  have HZ : Hid _ := hz
  clear hz s1
  go_enter Tryz.func233, Tryz.ntmps233
  go_wp2_with fail
  refine (c1 _).mono ?_
  rintro r w' ⟨rfl, rfl⟩
  go_wp2_with fail
  refine (c2 _).mono ?_
  rintro r w' ⟨rfl, rfl⟩
  go_wp2_with fail
  rw [HZ.out]
  go_loopw [22] (fun i wr => ∃ k : Nat, k ≤ n ∧ i = .int .i64 k ∧ okTo bs k ∧ Box wr (w.heap.size + 1) (tkc bs k) 311 ∧ Below w.heap.size w wr) (fun i _ => n - (intOf i).toNat)
  case atStart => exact ⟨0, Nat.zero_le _, rfl, fun j _ h => absurd h (by omega), bT, B0⟩
  case round =>
    obtain ⟨k, hk, rfl, hokk, hT, hB⟩ := hrel
    clear bT B0 c1 c2
    by_cases hlt : k < n
    · have hlt2 : (k : Int) < n := by omega
      have hkl : k < bs.length := by rw [HL.out]; exact hlt
      obtain ⟨q1, x, l, c, q2⟩ := HC.out k hkl
      replace q1 := (hB.cell (p := ⟨b, o + k * 2, none⟩) hblt).trans q1
      replace q2 := (hB.cell (p := ⟨b, o + k * 2 + 1, none⟩) hblt).trans q2
      obtain ⟨B, hBB⟩ : ∃ B, bs[k] = B := ⟨_, rfl⟩
      rw [hBB] at q1
      have HBB : Hid _ := hBB
      clear hBB
      have al := (Below.refl wr.heap.size wr).alloc (Nat.le_refl _) (.cells #[.int .i64 B, .slice x l c] 254)
      have bx := Box.new wr #[.int .i64 B, .slice x l c] 254
      have x0 := bx.cell 0
      have hT1 := hT.below al
      have B1 := hB.trans (al.mono hB.size)
      have HOK : Hid _ := hokk
      clear hT al hokk
      have cw := within_at B 0 511 (wr.alloc (.cells #[.int .i64 B, .slice x l c] 254))
      by_cases hin : 0 ≤ B ∧ B ≤ 511
      · have ein : (decide ((0 : Int) ≤ B) && decide (B ≤ 511)) = true := by simpa using hin
        rw [ein] at cw
        obtain ⟨m, rfl⟩ : ∃ m : Nat, B = (m : Int) := ⟨B.toNat, by omega⟩
        have hm5 : m < 512 := by omega
        have hm6 : (m : Int) < 512 := by omega
        have tc := hT1.cell m
        have ft := hT1.frozen m
        have hts := hT1.store m (.bool true)
        have etk : (tkc bs k)[m]? = some (.bool (decide ((m : Int) ∈ bs.take k))) := by
          unfold tkc
          rw [List.getElem?_toArray, List.getElem?_map, tk_at bs k m hm5]
          rfl
        rw [etk] at tc
        have ets : (tkc bs k).setIfInBounds m (.bool true) = tkc bs (k + 1) := by
          unfold tkc
          rw [List.setIfInBounds_toArray, ← List.map_set, tk_set bs k m hkl HBB.out hm5]
        rw [ets] at hts
        have B2 := B1.setCell (p := ⟨w.heap.size + 1, m, none⟩) (by simp) (.bool true)
        clear etk ets hT1
        by_cases hmem : (m : Int) ∈ bs.take k
        · have ed : decide ((m : Int) ∈ bs.take k) = true := by simpa using hmem
          rw [ed] at tc
          have hno : Hid (¬ okTo bs n) := fun h => (h k hkl hlt).2 (by rw [HBB.out]; exact hmem)
          clear hts B2 ed hmem hin ein
          go_wp2_with fail
          refine cw.mono ?_
          rintro r w' ⟨rfl, rfl⟩
          clear cw
          go_wp2
          go_ret
          exact ⟨false, rfl, ⟨fun h => (by cases h), fun h => (hno.out h).elim⟩, B1⟩
        · have ed : decide ((m : Int) ∈ bs.take k) = false := by simpa using hmem
          rw [ed] at tc
          have hok1 : Hid (okTo bs (k + 1)) := okTo_succ hkl HOK.out (by rw [HBB.out]; exact hin) (by rw [HBB.out]; exact hmem)
          clear ed hmem hin ein B1
          go_wp2_with fail
          refine cw.mono ?_
          rintro r w' ⟨rfl, rfl⟩
          clear cw
          go_wp2
          go_roundw
          case rel => exact ⟨k + 1, by omega, by go_num, hok1.out, hts, B2⟩
          case measure => simp [intOf]; omega
      · have ein : (decide ((0 : Int) ≤ B) && decide (B ≤ 511)) = false := by simpa using hin
        rw [ein] at cw
        have hno : Hid (¬ okTo bs n) := fun h => hin (by have := (h k hkl hlt).1; rw [HBB.out] at this; exact this)
        clear hT1 ein hin
        go_wp2_with fail
        refine cw.mono ?_
        rintro r w' ⟨rfl, rfl⟩
        clear cw
        go_wp2
        go_ret
        exact ⟨false, rfl, ⟨fun h => (by cases h), fun h => (hno.out h).elim⟩, B1⟩
    · obtain rfl : k = n := by omega
      go_wp2
      go_ret
      exact ⟨true, rfl, ⟨fun _ => hokk, fun _ => rfl⟩, hB⟩
end Go.Proofs.YtnldkpckojhbhaaGreat.Rc

/-
  rightHeading, of any heading; rightGroup.
-/
namespace Go.Proofs.YtnldkpckojhbhaaGreat.Rc
open Go.RowKit

theorem owns_belowH {w w' : World} {base e size n : Nat} {v : Value} {xs : List Value} (h : w.ownsRow base e size v n xs) (hb : Below w.heap.size w w') : w'.ownsRow base e size v n xs := by
  refine ⟨h.1, ?_⟩
  rcases h.2 with h | ⟨g, cap, cur, e1, e2, e3, e4⟩
  · exact .inl h
  · exact .inr ⟨g, cap, cur, e1, e2, (hb.block g (Array.getElem?_eq_some_iff.1 e3).1).trans e3, e4⟩

set_option maxRecDepth 100000 in
theorem rightHeading_at (e s : Int) (a : Option Addr) (n cap : Nat) (bs : List Int) (w : World) (hl : bs.length = n) (hB : Blks w a bs) :
    Calls Tryz.prog 233 #[.agg #[.int .i64 e, .int .i64 s, .slice a n cap]] w fun r w' => ∃ q : Bool, r = .returned (.bool q) ∧ (q = true ↔ okHead e s bs) ∧ Below w.heap.size w w' := by
  have B0 := (Below.refl w.heap.size w).alloc (Nat.le_refl _) (.cells #[.int .i64 e, .int .i64 s, .slice a n cap] 250)
  cases hok : okStamp e s with
  | false =>
    have c1 : ∀ u, Calls Tryz.prog 267 #[.int .i64 e, .int .i64 s] u fun x w' => x = .returned (.bool false) ∧ u = w' := fun u => by have := rightStamp_at e s u; rw [hok] at this; exact this
    have hno : Hid (¬ okHead e s bs) := fun h => by rw [h.1] at hok; cases hok
    clear hok hB
    go_enter Tryz.func233, Tryz.ntmps233
    go_wp2_with fail
    refine (c1 _).mono ?_
    rintro r w' ⟨rfl, rfl⟩
    go_wp2
    go_ret
    exact ⟨false, rfl, ⟨fun h => (by cases h), fun h => (hno.out h).elim⟩, B0⟩
  | true =>
    by_cases hn : 1 ≤ n ∧ n ≤ 32
    · refine (rightHeading_in e s a n cap bs w hl hn.1 hn.2 hok hB).mono ?_
      rintro r w' ⟨q, rfl, hq, hb⟩
      refine ⟨q, rfl, hq.trans ⟨fun h => ⟨hok, by rw [hl]; exact hn, by rw [hl]; exact h⟩, fun h => by have := h.2.2; rw [hl] at this; exact this⟩, hb⟩
    · have c1 : ∀ u, Calls Tryz.prog 267 #[.int .i64 e, .int .i64 s] u fun x w' => x = .returned (.bool true) ∧ u = w' := fun u => by have := rightStamp_at e s u; rw [hok] at this; exact this
      have c2 : ∀ u, Calls Tryz.prog 234 #[.int .i64 (n : Int), .int .i64 1, .int .i64 32] u fun x w' => x = .returned (.bool false) ∧ u = w' := fun u => by
        have := within_at (n : Int) 1 32 u
        have e : (decide ((1 : Int) ≤ n) && decide ((n : Int) ≤ 32)) = false := by simp; omega
        rw [e] at this
        exact this
      have hno : Hid (¬ okHead e s bs) := fun h => hn (by have := h.2.1; rw [hl] at this; exact this)
      clear hok hB hn
      go_enter Tryz.func233, Tryz.ntmps233
      go_wp2_with fail
      refine (c1 _).mono ?_
      rintro r w' ⟨rfl, rfl⟩
      go_wp2_with fail
      refine (c2 _).mono ?_
      rintro r w' ⟨rfl, rfl⟩
      go_wp2
      go_ret
      exact ⟨false, rfl, ⟨fun h => (by cases h), fun h => (hno.out h).elim⟩, B0⟩

def ImgAt (w : World) (b o : Nat) (i : Int × List UInt8) : Prop :=
  w.cell? ⟨b, o, none⟩ = some (.int .i64 i.1) ∧ ∃ x c, w.cell? ⟨b, o + 1, none⟩ = some (.slice x i.2.length c) ∧ i.2.length ≤ c ∧ c ≤ 9223372036854775807 ∧ (x = none → c = 0) ∧ Rd w x i.2
def Imgs (w : World) (a : Option Addr) (is : List (Int × List UInt8)) : Prop :=
  0 < is.length → ∃ b o, a = some ⟨b, o, none⟩ ∧ ∀ j (h : j < is.length), ImgAt w b (o + j * 2) is[j]
theorem ImgAt.below {w w' : World} {b o : Nat} {i : Int × List UInt8} (h : ImgAt w b o i) (hb : Below w.heap.size w w') : ImgAt w' b o i := by
  obtain ⟨h1, x, c, h2, h3, h4, h5, h6⟩ := h
  have hlt : b < w.heap.size := block_lt_of_cell h1
  exact ⟨(hb.cell (p := ⟨b, o, none⟩) hlt).trans h1, x, c, (hb.cell (p := ⟨b, o + 1, none⟩) hlt).trans h2, h3, h4, h5, h6.below hb (Nat.le_refl _)⟩
theorem Imgs.below {w w' : World} {a : Option Addr} {is : List (Int × List UInt8)} (h : Imgs w a is) (hb : Below w.heap.size w w') : Imgs w' a is := fun hp => by
  obtain ⟨b, o, ha, hc⟩ := h hp
  exact ⟨b, o, ha, fun j hj => (hc j hj).below hb⟩

def blkCells (bs : List Int) : List Value := bs.flatMap fun b => [.int .i64 b, .slice none 0 0]
theorem blkCells_at (bs : List Int) (i : Nat) (h : i < bs.length) : (blkCells bs)[i * 2]? = some (.int .i64 bs[i]) ∧ (blkCells bs)[i * 2 + 1]? = some (.slice none 0 0) := by
  induction bs generalizing i with
  | nil => simp at h
  | cons b bs ih =>
    cases i with
    | zero => exact ⟨rfl, rfl⟩
    | succ i =>
      obtain ⟨p, q⟩ := ih i (by simpa using h)
      have e1 : (i + 1) * 2 = i * 2 + 1 + 1 := by omega
      simp only [blkCells, List.flatMap_cons, e1, List.cons_append, List.nil_append, List.getElem?_cons_succ, List.getElem_cons_succ]
      exact ⟨p, q⟩

def okGroup (e s : Int) (is : List (Int × List UInt8)) : Prop := okHead e s (is.map (·.1)) ∧ ∀ i ∈ is, i.2.length = 4096

set_option maxRecDepth 100000 in
set_option maxHeartbeats 4000000 in
theorem rightGroup_at (e s : Int) (a : Option Addr) (n cap : Nat) (is : List (Int × List UInt8)) (w : World) (hl : is.length = n) (hn : n * 32 ≤ 140737488355328) (hI : Imgs w a is) :
    Calls Tryz.prog 194 #[.agg #[.int .i64 e, .int .i64 s, .slice a n cap]] w fun r w' => ∃ q : Bool, r = .returned (.bool q) ∧ (q = true ↔ okGroup e s is) ∧ Below w.heap.size w w' := by
  obtain ⟨i0, hi, hz0, hz1, hz2⟩ := info_parts info62
  have HL : Hid _ := hl
  have HI : Hid _ := hI
  clear hl hI
  have b0 := Box.new (w.alloc (.cells #[.int .i64 e, .int .i64 s, .slice a n cap] 203)) #[.int .i64 e, .int .i64 s, .slice none 0 0] 250
  have s1 : (w.alloc (.cells #[.int .i64 e, .int .i64 s, .slice a n cap] 203)).heap.size = w.heap.size + 1 := by simp
  rw [s1] at b0
  have B0 := ((Below.refl w.heap.size w).alloc (Nat.le_refl _) (.cells #[.int .i64 e, .int .i64 s, .slice a n cap] 203)).alloc (by simp) (.cells #[.int .i64 e, .int .i64 s, .slice none 0 0] 250)
  clear s1
  go_enter Tryz.func194, Tryz.ntmps194
  go_wp2_with fail
  go_loopw [14] (fun i wr => ∃ k : Nat, k ≤ n ∧ i = .int .i64 k ∧ (∀ x ∈ is.take k, x.2.length = 4096) ∧ (∃ v, Box wr (w.heap.size + 1) #[.int .i64 e, .int .i64 s, v] 250 ∧ wr.ownsRow w.heap.size 254 2 v k (blkCells ((is.take k).map (·.1)))) ∧ Below w.heap.size w wr) (fun i _ => n - (intOf i).toNat)
  case atStart => exact ⟨0, Nat.zero_le _, rfl, by simp, ⟨_, b0, World.ownsRow_nil _ _ _ _⟩, B0⟩
  case round =>
    obtain ⟨k, hk, rfl, hall, ⟨v, bv, hown⟩, hB⟩ := hrel
    clear b0 B0
    by_cases hlt : k < n
    · have hlt2 : (k : Int) < n := by omega
      have hkl : k < is.length := by rw [HL.out]; exact hlt
      obtain ⟨b, o, rfl, hc⟩ := HI.out (by omega)
      obtain ⟨q1, x, c, q2, q3, q4, q5, q6⟩ := (hc k hkl).below hB
      have htk := List.take_succ_eq_append_getElem hkl
      generalize is[k] = I at q1 q2 q3 q6 htk
      obtain ⟨ib, dat⟩ := I
      dsimp only at q1 q2 q3 q6
      have HT : Hid _ := htk
      clear htk hc q5 q6
      obtain ⟨L, hLL⟩ : ∃ L, L = dat.length := ⟨_, rfl⟩
      rw [← hLL] at q2 q3
      have HLL : Hid _ := hLL
      clear hLL
      have al := (Below.refl wr.heap.size wr).alloc (Nat.le_refl _) (.cells #[.int .i64 ib, .slice x L c] 89)
      have bx := Box.new wr #[.int .i64 ib, .slice x L c] 89
      have x0 := bx.cell 0
      have x1 := bx.cell 1
      have bv1 := bv.below al
      have own1 := owns_belowH hown al
      have B1 := hB.trans (al.mono hB.size)
      obtain ⟨av, cv, rfl⟩ := owns_shape hown
      by_cases hL : L = 4096
      · have hne : ((L : Int) != 4096) = false := by rw [hL]; rfl
        have HL4 : Hid _ := hL
        have y2w := bv.cell 2
        have ltw := bv.lt
        clear hL bv hown hB
        have y2 : (wr.alloc (.cells #[.int .i64 ib, .slice x L c] 89)).cell? ⟨w.heap.size + 1, 2, none⟩ = some (.slice av k cv) := bv1.cell 2
        have bA := (Below.refl _ (wr.alloc (.cells #[.int .i64 ib, .slice x L c] 89))).alloc (Nat.le_refl _) (.cells #[.int .i64 ib, .slice none 0 0] 254)
        have bE := Box.new (wr.alloc (.cells #[.int .i64 ib, .slice x L c] 89)) #[.int .i64 ib, .slice none 0 0] 254
        have sE : (wr.alloc (.cells #[.int .i64 ib, .slice x L c] 89)).heap.size = wr.heap.size + 1 := by simp
        rw [sE] at bE
        have own2 := owns_belowH own1 bA
        have bv2 := bv1.below bA
        have B2 := B1.trans (bA.mono B1.size)
        go_wp2_with (at_builtin; refine wpList_append_own _ rfl _ _ 248 rfl w.heap.size 254 i0 (.agg #[.int .i64 0, .slice none 0 0]) 2 32 Tryz.underlying248 hi hz0 hz1 hz2 rfl (by decide) _ k _ rfl own2 ⟨wr.heap.size + 1, 0, none⟩ 1 1 [.int .i64 ib, .slice none 0 0] rfl rfl (two_cells bE) ?c2 ?c3 ?c4 B2.size ?_)
        case c2 => intro u hu; simp at hu; rcases hu with rfl | rfl <;> rfl
        case c3 => unfold maxLen; omega
        case c4 => omega
        · intro v' w4 hown4 hgrow _
          have B4 := B2.grown hgrow B2.size (fun j e => (owns_block own2 j e).1)
          have bv4 : Box w4 (w.heap.size + 1) _ 250 := bv2.grown hgrow (fun e => by
            obtain ⟨_, cur, q⟩ := owns_block own2 _ e
            exact q.ne bv2 (by decide) rfl)
          have f4 := bv4.frozen 2
          have y4 := bv4.cell 2
          have bv5 := bv4.store 2 v'
          have B5 := B4.setCell (p := ⟨w.heap.size + 1, 2, none⟩) (by simp) v'
          have hown5 : (w4.setCell ⟨w.heap.size + 1, 2, none⟩ v').ownsRow w.heap.size 254 2 v' (k + 1) _ := owns_grown hown4 (grown_store w4 (w.heap.size + 1) 2 v') (fun g' e => by
            obtain ⟨_, cur, q⟩ := owns_block hown4 g' e
            intro e2
            cases e2
            exact q.ne bv4 (by decide) rfl)
          obtain ⟨av', cv', rfl⟩ := owns_shape hown4
          clear hgrow own1 own2 bx x0 bv1 bv2 bv4 B1 B2 B4 al bA bE hown4
          go_wp2
          go_roundw
          case rel =>
            refine ⟨k + 1, by omega, by go_num, ?_, ⟨_, by simpa using bv5, ?_⟩, B5⟩
            · rw [HT.out]
              intro z hz
              rcases List.mem_append.1 hz with h | h
              · exact hall z h
              · simp at h
                subst h
                show dat.length = 4096
                rw [← HLL.out]
                exact HL4.out
            · rw [HT.out]
              have e : blkCells ((is.take k ++ [(ib, dat)]).map (·.1)) = blkCells ((is.take k).map (·.1)) ++ [.int .i64 ib, .slice none 0 0] := by simp [blkCells]
              rw [e]
              simpa [List.map_take] using hown5
          case measure => simp [intOf]; omega
      · have hne : ((L : Int) != 4096) = true := by simp; omega
        have hno : Hid (¬ okGroup e s is) := fun h => hL (by
          have := h.2 (ib, dat) (by
            have h2 : (ib, dat) ∈ is.take (k + 1) := by rw [HT.out]; simp
            exact List.mem_of_mem_take h2)
          rw [HLL.out]
          exact this)
        clear hL bv hown hB own1 bv1
        go_wp2
        go_ret
        exact ⟨false, rfl, ⟨fun h => (by cases h), fun h => (hno.out h).elim⟩, B1⟩
    · obtain rfl : k = n := by omega
      have htk : is.take k = is := List.take_of_length_le (by rw [HL.out]; omega)
      rw [htk] at hall hown
      obtain ⟨av, cv, rfl⟩ := owns_shape hown
      have y0 := bv.cell 0
      have y1 := bv.cell 1
      have y2 := bv.cell 2
      have hbk : Blks wr av (is.map (·.1)) := fun hp => by
        rw [List.length_map] at hp
        rcases hown.2 with ⟨hv, hn⟩ | ⟨gv, cap', cur, hv, _⟩
        · have := HL.out; omega
        · have ha : av = some ⟨gv, 0, none⟩ := by simpa using (Value.slice.inj hv).1
          subst ha
          refine ⟨gv, 0, rfl, fun j hj => ?_⟩
          obtain ⟨e1, e2⟩ := blkCells_at (is.map (·.1)) j hj
          have hb : (Value.slice (some ⟨gv, 0, none⟩) k cv).ownBlock = some gv := rfl
          have k1 := hown.cells hb _ _ e1
          have k2 := hown.cells hb _ _ e2
          rw [Addr.add_lit] at k1 k2
          exact ⟨k1, _, _, _, by rw [Nat.add_assoc]; exact k2⟩
      have cH := rightHeading_at e s av k cv (is.map (·.1)) wr (by rw [List.length_map]; exact HL.out) hbk
      clear hown bv hbk htk
      go_wp2_with fail
      refine cH.mono ?_
      rintro r w' ⟨q, rfl, hq, hb⟩
      go_wp2
      go_ret
      exact ⟨q, rfl, hq.trans ⟨fun h => ⟨h, hall⟩, fun h => h.1⟩, hB.trans (hb.mono hB.size)⟩
end Go.Proofs.YtnldkpckojhbhaaGreat.Rc

/-
  Put.
-/
namespace Go.Proofs.YtnldkpckojhbhaaGreat.Rc
open Go.RowKit

theorem info31 : (Tryz.prog.info? 37).map (fun i => (i.zero, i.size, i.bytes)) = some (some (.slice none 0 0), 1, 24) := by kernel_rfl

structure PP where
  b : Int
  xs : List UInt8
  h : Nat
  c : Nat
  q : Nat
  d : Nat
def stB (M xs : List UInt8) : List UInt8 := (hideTo xs M (List.finRange 8)).1
def hdB (M xs : List UInt8) : List UInt8 := (hideTo xs M (List.finRange 8)).2
def rowC (ps : List PP) : List Value := ps.map fun p => .slice (some ⟨p.h, 0, none⟩) 4096 p.c
def entC (ps : List PP) : List Value := ps.flatMap fun p => [.int .i64 p.b, .slice (some ⟨p.q, 0, none⟩) 64 p.d]
theorem entC_at (ps : List PP) (i : Nat) (h : i < ps.length) : (entC ps)[i * 2]? = some (.int .i64 ps[i].b) ∧ (entC ps)[i * 2 + 1]? = some (.slice (some ⟨ps[i].q, 0, none⟩) 64 ps[i].d) := by
  induction ps generalizing i with
  | nil => simp at h
  | cons p ps ih =>
    cases i with
    | zero => exact ⟨rfl, rfl⟩
    | succ i =>
      obtain ⟨u, v⟩ := ih i (by simpa using h)
      have e1 : (i + 1) * 2 = i * 2 + 1 + 1 := by omega
      simp only [entC, List.flatMap_cons, e1, List.cons_append, List.nil_append, List.getElem?_cons_succ, List.getElem_cons_succ]
      exact ⟨u, v⟩

def esOf (M : List UInt8) (ps : List PP) : List (Nat × List UInt8) := ps.map fun p => (p.b.toNat, hdB M p.xs)

structure PutJ (M : List UInt8) (B : Nat) (W : World) (ps : List PP) : Prop where
  rows : ∀ p ∈ ps, RowB W p.h p.c (stB M p.xs) ∧ RowB W p.q p.d (hdB M p.xs) ∧ B ≤ p.h ∧ B ≤ p.q
  apart : (ps.map PP.h).Nodup
theorem PutJ.mono {M : List UInt8} {B : Nat} {W W' : World} {ps : List PP} (h : PutJ M B W ps) (hk : ∀ g cur, Box W g cur 5 → W'.heap[g]? = W.heap[g]?) : PutJ M B W' ps :=
  ⟨fun p hp => by
    obtain ⟨a1, a2, a3⟩ := h.rows p hp
    refine ⟨a1.same ?_, a2.same ?_, a3⟩
    · obtain ⟨cur, q, _⟩ := a1; exact hk _ _ q
    · obtain ⟨cur, q, _⟩ := a2; exact hk _ _ q, h.apart⟩
theorem PutJ.below {M : List UInt8} {B : Nat} {W W' : World} {ps : List PP} (h : PutJ M B W ps) (hb : Below W.heap.size W W') : PutJ M B W' ps := h.mono fun g _ q => hb.block g q.lt
theorem PutJ.grown {M : List UInt8} {B base e size n : Nat} {W W' : World} {ps : List PP} {v : Value} {xs : List Value} (h : PutJ M B W ps) (ho : W.ownsRow base e size v n xs) (he : (5 : TypeId) ≠ e) (hg : W.grownBy W' v.ownBlock) : PutJ M B W' ps := h.mono fun g cur q => hg.block g q.lt (fun eq => by
  obtain ⟨_, c2, q2⟩ := owns_block ho g eq.symm
  exact q.ne q2 he rfl)
theorem PutJ.store {M : List UInt8} {B b j : Nat} {W : World} {ps : List PP} {cs : Array Value} {t : TypeId} (h : PutJ M B W ps) (hb : Box W b cs t) (ht : (5 : TypeId) ≠ t) (u : Value) : PutJ M B (W.setCell ⟨b, j, none⟩ u) ps := h.mono fun g _ q => heap_setCell_other W ⟨b, j, none⟩ g u (q.ne hb ht)
theorem PutJ.snoc {M : List UInt8} {B : Nat} {W W' : World} {ps : List PP} (h : PutJ M B W ps) (hb : Below W.heap.size W W') (p : PP) (h1 : RowB W' p.h p.c (stB M p.xs)) (h2 : RowB W' p.q p.d (hdB M p.xs)) (h3 : W.heap.size ≤ p.h) (h4 : W.heap.size ≤ p.q) (hB : B ≤ W.heap.size) : PutJ M B W' (ps ++ [p]) :=
  ⟨fun x hx => by
    rcases List.mem_append.1 hx with hx | hx
    · exact (h.below hb).rows x hx
    · simp at hx
      subst hx
      exact ⟨h1, h2, by omega, by omega⟩, by
    rw [List.map_append, List.nodup_append]
    refine ⟨h.apart, by simp, fun x hx y hy => ?_⟩
    obtain ⟨z, hz, rfl⟩ := List.mem_map.1 hx
    simp at hy
    subst hy
    have := (h.rows z hz).1.lt
    omega⟩

set_option maxRecDepth 100000 in
set_option maxHeartbeats 4000000 in
theorem put_in (e s : Nat) (a : Option Addr) (n cap : Nat) (is : List (Int × List UInt8)) (w : World) (hl : is.length = n) (hI : Imgs w a is) (hok : okGroup e s is) (h1 : 1 ≤ n) (h2 : n ≤ 32) :
    Calls Tryz.prog 150 #[.agg #[.int .i64 (e : Int), .int .i64 (s : Int), .slice a n cap]] w fun r w' => ∃ gl cl h0 ps, r = .returned (.tuple #[.slice (some ⟨gl, 0, none⟩) (n + 1) cl, .int .i64 0]) ∧ w.heap.size ≤ gl ∧ w'.ownsRow w.heap.size 37 1 (.slice (some ⟨gl, 0, none⟩) (n + 1) cl) (n + 1) (.slice (some ⟨h0, 0, none⟩) 4096 4096 :: rowC ps) ∧
      RowB w' h0 4096 (headB e s (esOf (mark e s) ps)) ∧ h0 ∉ ps.map PP.h ∧ w.heap.size ≤ h0 ∧ PutJ (mark e s) w.heap.size w' ps ∧ ps.map (fun p => (p.b, p.xs)) = is ∧ Below w.heap.size w w' := by
  obtain ⟨i0, hi, hz0, hz1, hz2⟩ := info_parts info62
  obtain ⟨j0, ji, jz0, jz1, jz2⟩ := info_parts info31
  have B0 := (Below.refl w.heap.size w).alloc (Nat.le_refl _) (.cells #[.int .i64 (e : Int), .int .i64 (s : Int), .slice a n cap] 203)
  have c1 := rightGroup_at e s a n cap is _ hl (by omega) (hI.below B0)
  have HOK : Hid _ := hok
  have HL : Hid _ := hl
  have hbn : blocksN (n : Int) = (n : Int) + 1 := by unfold blocksN; rw [if_pos (by omega)]
  clear hok hl
  go_enter Tryz.func150, Tryz.ntmps150
  go_wp2_with fail
  refine c1.mono ?_
  rintro r w1 ⟨q, rfl, hq, hb1⟩
  have eq1 : q = true := hq.2 HOK.out
  clear hq c1
  subst eq1
  have bG : Box w1 w.heap.size #[.int .i64 (e : Int), .int .i64 (s : Int), .slice a n cap] 203 := (Box.new w _ 203).below hb1
  have B1 := B0.trans (hb1.mono B0.size)
  have g0 := bG.cell 0
  have g1 := bG.cell 1
  have g2 := bG.cell 2
  clear B0 hb1
  have bH := Box.new w1 #[.int .i64 (e : Int), .int .i64 (s : Int), .slice none 0 0] 250
  have bG2 := bG.alloc (.cells #[.int .i64 (e : Int), .int .i64 (s : Int), .slice none 0 0] 250)
  have B2 := B1.alloc B1.size (.cells #[.int .i64 (e : Int), .int .i64 (s : Int), .slice none 0 0] 250)
  have g22 : (w1.alloc (.cells #[.int .i64 (e : Int), .int .i64 (s : Int), .slice none 0 0] 250)).cell? ⟨w.heap.size, 2, none⟩ = some (.slice a n cap) := bG2.cell 2
  obtain ⟨u0, hu0⟩ : ∃ u, u = w1.alloc (.cells #[.int .i64 (e : Int), .int .i64 (s : Int), .slice none 0 0] 250) := ⟨_, rfl⟩
  have HU0 : Hid _ := hu0
  rw [← hu0] at bH bG2 B2
  obtain ⟨bh, hbh⟩ : ∃ b, b = w1.heap.size := ⟨_, rfl⟩
  have hbh1 : w.heap.size < bh := by rw [hbh]; exact bG.lt
  have HBH : Hid _ := hbh
  rw [← hbh] at bH
  clear hu0 hbh bG B1
  go_wp2_with fail
  rw [← HU0.out, ← HBH.out]
  clear g0 g1 g2 g22
  refine (blocks_at (n : Int) _).mono ?_
  rintro r w' ⟨rfl, rfl⟩
  rw [hbn]
  obtain ⟨u1, hm, ow1, hg1⟩ : ∃ u', (Instr.makeSlice 46 (.int .i64 1) (.int .i64 ((n : Int) + 1))).run Tryz.prog u0 = .ok (.slice (some ⟨u0.heap.size, 0, none⟩) 1 (n + 1)) u' ∧ u'.ownsRow u0.heap.size 37 1 (.slice (some ⟨u0.heap.size, 0, none⟩) 1 (n + 1)) 1 [.slice none 0 0] ∧ u0.grownBy u' none := by
    have h := run_make (P := Tryz.prog) u0 46 37 j0 (.slice none 0 0) Tryz.underlying46 ji jz0 .i64 .i64 1 ((n : Int) + 1) (by omega) (by omega) (by rw [jz2]; omega) (by omega)
    have e1 : ((n : Int) + 1).toNat = n + 1 := by omega
    rw [e1, jz1] at h
    refine ⟨_, h, ⟨rfl, .inr ⟨u0.heap.size, n + 1, _, rfl, Nat.le_refl _, heap_alloc_new u0 _, by omega, by unfold maxLen; omega, ?_, ?_⟩⟩, World.grownBy_alloc u0 _ none⟩
    · simp [madeCells, Value.cells]
    · apply List.ext_getElem
      · simp [madeCells, Value.cells]
      · intro i h1 h2
        simp [madeCells, Value.cells, Nat.mod_one]
  have bH1 : Box u1 bh _ 250 := bH.grown hg1 (by simp)
  have bG1 : Box u1 w.heap.size _ 203 := bG2.grown hg1 (by simp)
  have B3 := B2.grown hg1 B2.size (fun k e => by cases e)
  have x2 := bG1.cell 2
  have su : w.heap.size ≤ u0.heap.size := B2.size
  clear bH bG2 B2 hg1
  obtain ⟨M, hM⟩ : ∃ M, M = mark e s := ⟨_, rfl⟩
  have HM : Hid _ := hM
  have hML : M.length = 8 := by rw [hM]; exact mark_length _ _
  clear hM
  go_wp2_with fail
  go_loopw [5, 26] (fun v i wr => ∃ (k : Nat) (ps : List PP), k ≤ n ∧ i = .int .i64 k ∧ ps.map (fun p => (p.b, p.xs)) = is.take k ∧ wr.ownsRow w.heap.size 37 1 v (k + 1) (.slice none 0 0 :: rowC ps) ∧ (∃ ve, Box wr bh #[.int .i64 (e : Int), .int .i64 (s : Int), ve] 250 ∧ wr.ownsRow w.heap.size 254 2 ve k (entC ps)) ∧ PutJ M w.heap.size wr ps ∧ Box wr w.heap.size #[.int .i64 (e : Int), .int .i64 (s : Int), .slice a n cap] 203 ∧ Below w.heap.size w wr) (fun _ i _ => n - (intOf i).toNat)
  case atStart => exact ⟨0, [], Nat.zero_le _, rfl, rfl, owns_base ow1 su, ⟨_, bH1, World.ownsRow_nil _ _ _ _⟩, ⟨fun p hp => by simp at hp, by simp⟩, bG1, B3⟩
  case round =>
    obtain ⟨k, ps, hk, rfl, hps, hown, ⟨ve, bH, hent⟩, hJ, bG, hB⟩ := hrel
    clear bH1 bG1 B3 ow1 x2 hm
    by_cases hlt : k < n
    · have hlt2 : (k : Int) < n := by omega
      have hkl : k < is.length := by rw [HL.out]; exact hlt
      obtain ⟨b, o, rfl, hc⟩ := hI (by omega)
      obtain ⟨q1, x, c, q2, q3, q4, q5, q6⟩ := (hc k hkl).below hB
      have htk := List.take_succ_eq_append_getElem hkl
      have h4 : is[k].2.length = 4096 := HOK.out.2 _ (List.getElem_mem hkl)
      generalize is[k] = I at q1 q2 q3 q6 htk h4
      obtain ⟨ib, dat⟩ := I
      dsimp only at q1 q2 q3 q6 h4
      rw [h4] at q2 q3
      obtain ⟨gx, ox, rfl, _⟩ := q6 (by omega)
      have HT : Hid _ := htk
      have HPS : Hid _ := hps
      clear htk hc q5 hps
      have al := (Below.refl wr.heap.size wr).alloc (Nat.le_refl _) (.cells #[.int .i64 ib, .slice (some ⟨gx, ox, none⟩) 4096 c] 89)
      have bx := Box.new wr #[.int .i64 ib, .slice (some ⟨gx, ox, none⟩) 4096 c] 89
      have bH1 := bH.below al
      have bG1 := bG.below al
      have own1 := owns_below hown al
      have ent1 := owns_below hent al
      have J1 := hJ.below al
      have B1 := hB.trans (al.mono hB.size)
      have rd1 := q6.below al (Nat.le_refl _)
      obtain ⟨av, cv, rfl⟩ := owns_shape hown
      obtain ⟨ae, ce, rfl⟩ := owns_shape hent
      have zz : wr.heap.size + 1 = (wr.alloc (.cells #[.int .i64 ib, .slice (some ⟨gx, ox, none⟩) 4096 c] 89)).heap.size := by simp
      obtain ⟨V, hV⟩ : ∃ V, V = wr.alloc (.cells #[.int .i64 ib, .slice (some ⟨gx, ox, none⟩) 4096 c] 89) := ⟨_, rfl⟩
      have hsz : wr.heap.size < V.heap.size := by rw [hV]; omega
      have HV : Hid _ := hV
      rw [← hV] at bx bH1 bG1 own1 ent1 J1 B1 rd1
      clear hV al bH bG hown hent hJ hB zz
      obtain ⟨bi, hbi⟩ : ∃ b, b = wr.heap.size := ⟨_, rfl⟩
      have HBI : Hid _ := hbi
      rw [← hbi] at bx hsz
      clear hbi
      have hE : True ∧ e ≤ 8388608 ∧ s ≤ 549755813888 := by
        have := (okStamp_iff _ _).1 HOK.out.1.1
        exact ⟨trivial, by omega, by omega⟩
      go_wp2_with fail
      rw [← HV.out, ← HBI.out]
      refine wp_mono (Q := (fun x A W => x = .normal ∧ ∃ g4 h ch q dq, A = { tmps := #[.agg #[.int .i64 (e : Int), .int .i64 (s : Int), .slice (some ⟨b, o, none⟩) n cap], .pointer (some ⟨w.heap.size, 0, none⟩), .slice none 0 0, .int .i64 0, .pointer (some ⟨bh, 0, none⟩), .slice av (k + 1) cv, undef, .pointer (some ⟨bi, 0, none⟩), .slice (some ⟨h, 0, none⟩) 4096 ch, .slice (some ⟨q, 0, none⟩) 64 dq, .agg #[.int .i64 (e : Int), .int .i64 (s : Int), .slice (some ⟨b, o, none⟩) n cap], .bool true, .bool false, .pointer (some ⟨w.heap.size, 0, none⟩), .int .i64 (e : Int), .pointer (some ⟨w.heap.size, 1, none⟩), .int .i64 (s : Int), .agg #[.int .i64 (e : Int), .int .i64 (s : Int), .slice none 0 0], .pointer (some ⟨w.heap.size, 2, none⟩), .slice (some ⟨b, o, none⟩) n cap, .int .i64 (n : Int), .int .i64 ((n : Int) + 1), .slice (some ⟨u0.heap.size, 0, none⟩) 1 (n + 1), .pointer (some ⟨w.heap.size, 2, none⟩), .slice (some ⟨b, o, none⟩) n cap, .int .i64 (n : Int), .int .i64 (k : Int), .bool true, .pointer (some ⟨b, o + k * 2, none⟩), .agg #[.int .i64 ib, .slice (some ⟨gx, ox, none⟩) 4096 c], .tuple #[.slice (some ⟨h, 0, none⟩) 4096 ch, .slice (some ⟨q, 0, none⟩) 64 dq], .pointer (some ⟨bi, 1, none⟩), .slice (some ⟨gx, ox, none⟩) 4096 c, .pointer (some ⟨w.heap.size, 0, none⟩), .int .i64 (e : Int), .pointer (some ⟨w.heap.size, 1, none⟩), .int .i64 (s : Int), .slice (some ⟨g4, 0, none⟩) 8 8, .tuple #[.slice (some ⟨h, 0, none⟩) 4096 ch, .slice (some ⟨q, 0, none⟩) 64 dq], .slice (some ⟨h, 0, none⟩) 4096 ch, .slice (some ⟨q, 0, none⟩) 64 dq, u41, u42, u43, u44, u45, u46, u47, u48, u49, u50, u51, u52, u53, u54, undef, undef, undef, undef, undef], defers := [] } ∧ RowB W h ch (stB M dat) ∧ RowB W q dq (hdB M dat) ∧ V.heap.size ≤ h ∧ V.heap.size ≤ q ∧ Below V.heap.size V W)) ?reg ?tail
      case reg =>
        refine wp_region_any (by kernel_rfl) ?_
        change wpAny _ _ _ _ _ _ _ (World.drew _)
        have bI : Box V.drew bi _ 89 := bx
        replace bG1 : Box V.drew w.heap.size _ 203 := bG1
        have rdV : Rd V (some ⟨gx, ox, none⟩) dat := rd1
        have BV : Below V.heap.size V V.drew := (Below.refl _ _).drew
        clear own1 ent1 J1 B1 bH1 bx q1 q2 q6
        generalize V.drew = V' at bI bG1 BV ⊢
        refine wpAny_take (i := 0) (v := ?_) rfl (by kernel_rfl) (by kernel_rfl) (by kernel_rfl) (fun _ _ _ h => nomatch h.1) (Or.inl ⟨by rfl, ?_⟩) ?_
        rotate_left
        · intro w
          go_simp
          with_reducible rfl
        refine wpAny_take (i := 2) (v := ?_) rfl (by kernel_rfl) (by kernel_rfl) (by kernel_rfl) (fun _ _ _ h => nomatch h.1) (Or.inl ⟨by rfl, ?_⟩) ?_
        rotate_left
        · intro w
          go_simp
          with_reducible rfl
        refine wpAny_take (i := 4) (v := ?_) rfl (by kernel_rfl) (by kernel_rfl) (by kernel_rfl) (fun _ _ _ h => nomatch h.1) (Or.inl ⟨by rfl, ?_⟩) ?_
        rotate_left
        · intro w
          go_simp
          with_reducible rfl
        simp only [Act.put, List.setIfInBounds_toArray, List.set_cons_zero, List.set_cons_succ, List.getElem_toArray, List.getElem_cons_zero, List.getElem_cons_succ]
        refine wpAny_of_late (C := SB [(31, .pointer (some ⟨bi, 1, none⟩)), (33, .pointer (some ⟨w.heap.size, 0, none⟩)), (35, .pointer (some ⟨w.heap.size, 1, none⟩))] [(bi, #[.int .i64 ib, .slice (some ⟨gx, ox, none⟩) 4096 c], 89), (w.heap.size, #[.int .i64 (e : Int), .int .i64 (s : Int), .slice (some ⟨b, o, none⟩) n cap], 203)]) (late := []) _ _ _ _ ?_
        refine wpAnyD_take (i := 1) (v := .slice (some ⟨gx, ox, none⟩) 4096 c) rfl (by kernel_rfl) (by kernel_rfl) (by kernel_rfl) (by kernel_rfl) (fun _ _ _ h => nomatch h.1) ?_ (fun fr u h => (SB.put 32 _ (by rfl)).1 h) (fun fr u h => (SB.put 32 _ (by rfl)).2 h) ?_ ?_
        · intro fr u hh
          obtain ⟨e1, e2⟩ := hh.load (s := 31) (b := bi) (j := 1) (cs := #[.int .i64 ib, .slice (some ⟨gx, ox, none⟩) 4096 c]) (t := 89) (v := .slice (some ⟨gx, ox, none⟩) 4096 c) (by simp) (by simp) (by rfl)
          exact ⟨rfl, by simp [execOp, e1, go_sem, e2]⟩
        · exact ⟨fun p hp => by simp at hp; rcases hp with rfl | rfl | rfl <;> rfl, fun q hq => by simp at hq; rcases hq with rfl | rfl <;> first | exact bI | exact bG1⟩
        simp only [Act.put, List.setIfInBounds_toArray, List.set_cons_zero, List.set_cons_succ, List.getElem_toArray, List.getElem_cons_zero, List.getElem_cons_succ]
        refine wpAnyD_take (i := 3) (v := .int .i64 (e : Int)) rfl (by kernel_rfl) (by kernel_rfl) (by kernel_rfl) (by kernel_rfl) (fun _ _ _ h => nomatch h.1) ?_ (fun fr u h => (SB.put 34 _ (by rfl)).1 h) (fun fr u h => (SB.put 34 _ (by rfl)).2 h) ?_ ?_
        · intro fr u hh
          obtain ⟨e1, e2⟩ := hh.load (s := 33) (b := w.heap.size) (j := 0) (cs := #[.int .i64 (e : Int), .int .i64 (s : Int), .slice (some ⟨b, o, none⟩) n cap]) (t := 203) (v := .int .i64 (e : Int)) (by simp) (by simp) (by rfl)
          exact ⟨rfl, by simp [execOp, e1, go_sem, e2]⟩
        · exact ⟨fun p hp => by simp at hp; rcases hp with rfl | rfl | rfl <;> rfl, fun q hq => by simp at hq; rcases hq with rfl | rfl <;> first | exact bI | exact bG1⟩
        simp only [Act.put, List.setIfInBounds_toArray, List.set_cons_zero, List.set_cons_succ, List.getElem_toArray, List.getElem_cons_zero, List.getElem_cons_succ]
        refine wpAnyD_take (i := 5) (v := .int .i64 (s : Int)) rfl (by kernel_rfl) (by kernel_rfl) (by kernel_rfl) (by kernel_rfl) (fun _ _ _ h => nomatch h.1) ?_ (fun fr u h => (SB.put 36 _ (by rfl)).1 h) (fun fr u h => (SB.put 36 _ (by rfl)).2 h) ?_ ?_
        · intro fr u hh
          obtain ⟨e1, e2⟩ := hh.load (s := 35) (b := w.heap.size) (j := 1) (cs := #[.int .i64 (e : Int), .int .i64 (s : Int), .slice (some ⟨b, o, none⟩) n cap]) (t := 203) (v := .int .i64 (s : Int)) (by simp) (by simp) (by rfl)
          exact ⟨rfl, by simp [execOp, e1, go_sem, e2]⟩
        · exact ⟨fun p hp => by simp at hp; rcases hp with rfl | rfl | rfl <;> rfl, fun q hq => by simp at hq; rcases hq with rfl | rfl <;> first | exact bI | exact bG1⟩
        simp only [Act.put, List.setIfInBounds_toArray, List.set_cons_zero, List.set_cons_succ, List.getElem_toArray, List.getElem_cons_zero, List.getElem_cons_succ]
        refine wpAnyD_ready (rs := [6]) (by kernel_rfl) (by simp) ?_
        refine AllD.cons rfl (fun K hK2 => ?_) ?_
        · skip
          go_simp
          refine (stamp_at e s _ _ V' rfl rfl hE.2.1 hE.2.2).mono ?_
          rintro x V2 ⟨rfl, ho, hb2⟩
          replace bI := bI.below hb2
          replace bG1 := bG1.below hb2
          have BV2 := BV.trans (hb2.mono BV.size)
          refine hK2 _ _ ⟨.inr ⟨fun p hp => by simp at hp; rcases hp with rfl | rfl | rfl <;> rfl, fun q hq => by simp at hq; rcases hq with rfl | rfl <;> first | exact bI | exact bG1⟩, ?_⟩
          clear hK2 K
          rw [← HM.out] at ho
          obtain ⟨g4, hg4⟩ : ∃ g, g = V'.heap.size := ⟨_, rfl⟩
          rw [← hg4] at ho ⊢
          clear hg4
          refine wpAnyD_ready (rs := [7]) (by kernel_rfl) (by simp) ?_
          refine AllD.cons rfl (fun K hK2 => ?_) ?_
          · skip
            go_simp
            refine (hide_in gx ox c g4 dat M V2 h4 (rdV.below BV2 (Nat.le_refl _)) hML ho.rd).mono ?_
            rintro x V3 ⟨h, ch, v9, rfl, hh, r1, r2, hb3⟩
            replace bI := bI.below hb3
            replace bG1 := bG1.below hb3
            have BV3 := BV2.trans (hb3.mono BV2.size)
            obtain ⟨q, dq, rfl, hq, r3⟩ := RowB.owns r2 (by omega)
            refine hK2 _ _ ⟨.inr ⟨fun p hp => by simp at hp; rcases hp with rfl | rfl | rfl <;> rfl, fun q hq => by simp at hq; rcases hq with rfl | rfl <;> first | exact bI | exact bG1⟩, ?_⟩
            clear hK2 K
            refine wpAnyD_ready (rs := [8]) (by kernel_rfl) (by simp) ?_
            refine AllD.cons rfl (fun K hK2 => ?_) ?_
            · skip
              go_simp
              refine hK2 _ _ ⟨.inr ⟨fun p hp => by simp at hp; rcases hp with rfl | rfl | rfl <;> rfl, fun q hq => by simp at hq; rcases hq with rfl | rfl <;> first | exact bI | exact bG1⟩, ?_⟩
              clear hK2 K
              refine wpAnyD_ready (rs := [9, 10]) (by kernel_rfl) (by simp) ?_
              refine AllD.cons rfl (fun K hK2 => ?_) ?_
              · skip
                go_simp
                refine hK2 _ _ ⟨.inr ⟨fun p hp => by simp at hp; rcases hp with rfl | rfl | rfl <;> rfl, fun q hq => by simp at hq; rcases hq with rfl | rfl <;> first | exact bI | exact bG1⟩, ?_⟩
                clear hK2 K
                refine wpAnyD_ready (rs := [10, 11]) (by kernel_rfl) (by simp) ?_
                refine AllD.cons rfl (fun K hK2 => ?_) ?_
                · skip
                  go_simp
                  refine hK2 _ _ ⟨.inr ⟨fun p hp => by simp at hp; rcases hp with rfl | rfl | rfl <;> rfl, fun q hq => by simp at hq; rcases hq with rfl | rfl <;> first | exact bI | exact bG1⟩, ?_⟩
                  clear hK2 K
                  refine wpAnyD_ready (rs := [11]) (by kernel_rfl) (by simp) ?_
                  refine AllD.cons rfl (fun K hK2 => ?_) ?_
                  · skip
                    go_simp
                    refine hK2 _ _ ⟨.inr ⟨fun p hp => by simp at hp; rcases hp with rfl | rfl | rfl <;> rfl, fun q hq => by simp at hq; rcases hq with rfl | rfl <;> first | exact bI | exact bG1⟩, ?_⟩
                    clear hK2 K
                    refine wpAnyD_ready (rs := [12]) (by kernel_rfl) (by simp) ?_
                    refine AllD.cons rfl (fun K hK2 => ?_) ?_
                    · skip
                      go_simp
                      refine hK2 _ _ ⟨.inr ⟨fun p hp => by simp at hp; rcases hp with rfl | rfl | rfl <;> rfl, fun q hq => by simp at hq; rcases hq with rfl | rfl <;> first | exact bI | exact bG1⟩, ?_⟩
                      clear hK2 K
                      refine wpAnyD_done (by kernel_rfl) ?_ _
                      exact ⟨rfl, g4, h, ch, q, dq, rfl, r1, r3, by have := BV2.size; omega, by have := BV2.size; omega, BV3⟩
                    exact AllD.nil
                  exact AllD.nil
                refine AllD.cons rfl (fun K hK2 => ?_) ?_
                · skip
                  go_simp
                  refine hK2 _ _ ⟨.inr ⟨fun p hp => by simp at hp; rcases hp with rfl | rfl | rfl <;> rfl, fun q hq => by simp at hq; rcases hq with rfl | rfl <;> first | exact bI | exact bG1⟩, ?_⟩
                  clear hK2 K
                  refine wpAnyD_ready (rs := [10]) (by kernel_rfl) (by simp) ?_
                  refine AllD.cons rfl (fun K hK2 => ?_) ?_
                  · skip
                    go_simp
                    refine hK2 _ _ ⟨.inr ⟨fun p hp => by simp at hp; rcases hp with rfl | rfl | rfl <;> rfl, fun q hq => by simp at hq; rcases hq with rfl | rfl <;> first | exact bI | exact bG1⟩, ?_⟩
                    clear hK2 K
                    refine wpAnyD_ready (rs := [12]) (by kernel_rfl) (by simp) ?_
                    refine AllD.cons rfl (fun K hK2 => ?_) ?_
                    · skip
                      go_simp
                      refine hK2 _ _ ⟨.inr ⟨fun p hp => by simp at hp; rcases hp with rfl | rfl | rfl <;> rfl, fun q hq => by simp at hq; rcases hq with rfl | rfl <;> first | exact bI | exact bG1⟩, ?_⟩
                      clear hK2 K
                      refine wpAnyD_done (by kernel_rfl) ?_ _
                      exact ⟨rfl, g4, h, ch, q, dq, rfl, r1, r3, by have := BV2.size; omega, by have := BV2.size; omega, BV3⟩
                    exact AllD.nil
                  exact AllD.nil
                exact AllD.nil
              refine AllD.cons rfl (fun K hK2 => ?_) ?_
              · skip
                go_simp
                refine hK2 _ _ ⟨.inr ⟨fun p hp => by simp at hp; rcases hp with rfl | rfl | rfl <;> rfl, fun q hq => by simp at hq; rcases hq with rfl | rfl <;> first | exact bI | exact bG1⟩, ?_⟩
                clear hK2 K
                refine wpAnyD_ready (rs := [9]) (by kernel_rfl) (by simp) ?_
                refine AllD.cons rfl (fun K hK2 => ?_) ?_
                · skip
                  go_simp
                  refine hK2 _ _ ⟨.inr ⟨fun p hp => by simp at hp; rcases hp with rfl | rfl | rfl <;> rfl, fun q hq => by simp at hq; rcases hq with rfl | rfl <;> first | exact bI | exact bG1⟩, ?_⟩
                  clear hK2 K
                  refine wpAnyD_ready (rs := [11]) (by kernel_rfl) (by simp) ?_
                  refine AllD.cons rfl (fun K hK2 => ?_) ?_
                  · skip
                    go_simp
                    refine hK2 _ _ ⟨.inr ⟨fun p hp => by simp at hp; rcases hp with rfl | rfl | rfl <;> rfl, fun q hq => by simp at hq; rcases hq with rfl | rfl <;> first | exact bI | exact bG1⟩, ?_⟩
                    clear hK2 K
                    refine wpAnyD_ready (rs := [12]) (by kernel_rfl) (by simp) ?_
                    refine AllD.cons rfl (fun K hK2 => ?_) ?_
                    · skip
                      go_simp
                      refine hK2 _ _ ⟨.inr ⟨fun p hp => by simp at hp; rcases hp with rfl | rfl | rfl <;> rfl, fun q hq => by simp at hq; rcases hq with rfl | rfl <;> first | exact bI | exact bG1⟩, ?_⟩
                      clear hK2 K
                      refine wpAnyD_done (by kernel_rfl) ?_ _
                      exact ⟨rfl, g4, h, ch, q, dq, rfl, r1, r3, by have := BV2.size; omega, by have := BV2.size; omega, BV3⟩
                    exact AllD.nil
                  exact AllD.nil
                exact AllD.nil
              exact AllD.nil
            exact AllD.nil
          exact AllD.nil
        exact AllD.nil
      case tail =>
        rintro x A W ⟨rfl, g4, h, ch, q, dq, rfl, r1, r3, hh1, hh2, hbW⟩
        have J2 := J1.snoc hbW ⟨ib, dat, h, ch, q, dq⟩ r1 r3 hh1 hh2 B1.size
        replace own1 := owns_below own1 hbW
        replace ent1 := owns_below ent1 hbW
        replace bx := bx.below hbW
        replace bH1 := bH1.below hbW
        replace bG1 := bG1.below hbW
        replace B1 := B1.trans (hbW.mono B1.size)
        clear hbW J1 r1 r3 hh1 hh2 rd1 q6 q1 q2 hsz
        have al := (Below.refl W.heap.size W).alloc (Nat.le_refl _) (.cells #[.slice (some ⟨h, 0, none⟩) 4096 ch] 37)
        have bN := Box.new W #[.slice (some ⟨h, 0, none⟩) 4096 ch] 37
        replace own1 := owns_below own1 al
        replace ent1 := owns_below ent1 al
        replace bx := bx.below al
        replace bH1 := bH1.below al
        replace bG1 := bG1.below al
        replace J2 := J2.below al
        replace B1 := B1.trans (al.mono B1.size)
        have hcN : ∀ j u, ([.slice (some ⟨h, 0, none⟩) 4096 ch] : List Value)[j]? = some u → (W.alloc (.cells #[.slice (some ⟨h, 0, none⟩) 4096 ch] 37)).cell? ((⟨W.heap.size, 0, none⟩ : Addr).add j) = some u := fun j u hj => by
          rw [Addr.add_lit, Nat.zero_add, bN.cell j]
          simpa using hj
        go_wp2_with (at_builtin; refine wpList_append_own _ rfl _ _ 46 rfl w.heap.size 37 j0 (.slice none 0 0) 1 24 Tryz.underlying46 ji jz0 jz1 jz2 rfl (by decide) _ (k + 1) _ rfl own1 ⟨W.heap.size, 0, none⟩ 1 1 [.slice (some ⟨h, 0, none⟩) 4096 ch] rfl rfl hcN ?c2 ?c3 ?c4 B1.size ?_)
        case c2 => intro u hu; simp at hu; subst hu; rfl
        case c3 => unfold maxLen; omega
        case c4 => omega
        intro v' w4 own4 hg4 _
        have hnx : ∀ {g : Nat} {cs : Array Value} {t : TypeId}, Box _ g cs t → (37 : TypeId) ≠ t → Box w4 g cs t := fun hb ht => hb.grown hg4 (fun e => by
          obtain ⟨_, cur, q⟩ := owns_block own1 _ e
          exact q.ne hb ht rfl)
        have bx4 := hnx bx (by decide)
        have bH4 := hnx bH1 (by decide)
        have bG4 := hnx bG1 (by decide)
        have ent4 : w4.ownsRow w.heap.size 254 2 (.slice ae k ce) k (entC ps) := owns_grown ent1 hg4 (fun g eg e => by
          obtain ⟨_, cur, q⟩ := owns_block own1 _ e
          obtain ⟨_, cur2, q2⟩ := owns_block ent1 _ eg
          exact q.ne q2 (by decide) rfl)
        have J4 := J2.grown own1 (by decide) hg4
        have B4 := B1.grown hg4 B1.size (fun j e => (owns_block own1 j e).1)
        obtain ⟨av4, cv4, rfl⟩ := owns_shape own4
        clear hnx own1 ent1 bx bH1 bG1 J2 B1 bN al hcN hg4
        have y2 := bH4.cell 2
        have y0 := bx4.cell 0
        have al := (Below.refl w4.heap.size w4).alloc (Nat.le_refl _) (.cells #[.int .i64 ib, .slice (some ⟨q, 0, none⟩) 64 dq] 254)
        have bE := Box.new w4 #[.int .i64 ib, .slice (some ⟨q, 0, none⟩) 64 dq] 254
        have ent5 := owns_below ent4 al
        have own5 := owns_below own4 al
        have bH5 := bH4.below al
        have bG5 := bG4.below al
        have J5 := J4.below al
        have B5 := B4.trans (al.mono B4.size)
        go_wp2_with (at_builtin; refine wpList_append_own _ rfl _ _ 248 rfl w.heap.size 254 i0 (.agg #[.int .i64 0, .slice none 0 0]) 2 32 Tryz.underlying248 hi hz0 hz1 hz2 rfl (by decide) _ k _ rfl ent5 ⟨w4.heap.size, 0, none⟩ 1 1 [.int .i64 ib, .slice (some ⟨q, 0, none⟩) 64 dq] rfl rfl (two_cells bE) ?d2 ?d3 ?d4 B5.size ?_)
        case d2 => intro u hu; simp at hu; rcases hu with rfl | rfl <;> rfl
        case d3 => unfold maxLen; omega
        case d4 => omega
        intro v6 w6 ent6 hg6 _
        have hnx : ∀ {g : Nat} {cs : Array Value} {t : TypeId}, Box _ g cs t → (254 : TypeId) ≠ t → Box w6 g cs t := fun hb ht => hb.grown hg6 (fun e => by
          obtain ⟨_, cur, q⟩ := owns_block ent5 _ e
          exact q.ne hb ht rfl)
        have bH6 := hnx bH5 (by decide)
        have bG6 := hnx bG5 (by decide)
        have own6 : w6.ownsRow w.heap.size 37 1 (.slice av4 (k + 1 + 1) cv4) (k + 1 + 1) _ := owns_grown own5 hg6 (fun g eg e => by
          obtain ⟨_, cur, q⟩ := owns_block ent5 _ e
          obtain ⟨_, cur2, q2⟩ := owns_block own5 _ eg
          exact q.ne q2 (by decide) rfl)
        have J6 := J5.grown ent5 (by decide) hg6
        have B6 := B5.grown hg6 B5.size (fun j e => (owns_block ent5 j e).1)
        obtain ⟨av6, cv6, rfl⟩ := owns_shape ent6
        have f6 := bH6.frozen 2
        have z6 := bH6.cell 2
        have bH7 := bH6.store 2 (.slice av6 (k + 1) cv6)
        have bG7 : Box (w6.setCell ⟨bh, 2, none⟩ (.slice av6 (k + 1) cv6)) w.heap.size _ 203 := (heap_setCell_other w6 ⟨bh, 2, none⟩ w.heap.size _ (by show w.heap.size ≠ bh; omega)).trans bG6
        have J7 := J6.store (j := 2) bH6 (by decide) (.slice av6 (k + 1) cv6)
        have B7 := B6.setCell (p := ⟨bh, 2, none⟩) (by show w.heap.size ≤ bh; omega) (.slice av6 (k + 1) cv6)
        have ent7 : (w6.setCell ⟨bh, 2, none⟩ (.slice av6 (k + 1) cv6)).ownsRow w.heap.size 254 2 (.slice av6 (k + 1) cv6) (k + 1) _ := owns_grown ent6 (grown_store w6 bh 2 _) (fun g eg e => by
          cases e
          obtain ⟨_, cur2, q2⟩ := owns_block ent6 _ eg
          exact q2.ne bH6 (by decide) rfl)
        have own7 : (w6.setCell ⟨bh, 2, none⟩ (.slice av6 (k + 1) cv6)).ownsRow w.heap.size 37 1 (.slice av4 (k + 1 + 1) cv4) (k + 1 + 1) _ := owns_grown own6 (grown_store w6 bh 2 _) (fun g eg e => by
          cases e
          obtain ⟨_, cur2, q2⟩ := owns_block own6 _ eg
          exact q2.ne bH6 (by decide) rfl)
        clear hnx own4 own5 own6 ent4 ent5 ent6 bx4 bH4 bH5 bG4 bG5 bG6 J4 J5 J6 B4 B5 B6 bE al hg6 y2 y0
        go_wp2
        go_roundw
        case rel =>
          refine ⟨k + 1, ps ++ [⟨ib, dat, h, ch, q, dq⟩], by omega, by go_num, ?_, ?_, ⟨_, by simpa using bH7, ?_⟩, J7, bG7, B7⟩
          · rw [HT.out, List.map_append, HPS.out]
            rfl
          · have e1 : (.slice none 0 0 :: rowC (ps ++ [⟨ib, dat, h, ch, q, dq⟩])) = .slice none 0 0 :: rowC ps ++ [.slice (some ⟨h, 0, none⟩) 4096 ch] := by simp [rowC]
            rw [e1]
            exact own7
          · have e1 : entC (ps ++ [⟨ib, dat, h, ch, q, dq⟩]) = entC ps ++ [.int .i64 ib, .slice (some ⟨q, 0, none⟩) 64 dq] := by simp [entC]
            rw [e1]
            exact ent7
        case measure => simp [intOf]; omega
    · obtain rfl : k = n := by omega
      have htk : is.take k = is := List.take_of_length_le (by rw [HL.out]; omega)
      rw [htk] at hps
      have hpl : ps.length = k := by
        have := congrArg List.length hps
        rw [List.length_map] at this
        rw [this]
        exact HL.out
      have hxs : ∀ p ∈ ps, p.xs.length = 4096 ∧ 0 ≤ p.b ∧ p.b ≤ 511 := fun p hp => by
        have h5 : (p.b, p.xs) ∈ is := by rw [← hps]; exact List.mem_map_of_mem hp
        obtain ⟨j, hj, hje⟩ := List.getElem_of_mem h5
        have h6 := HOK.out.2 _ h5
        have h7 := (HOK.out.1.2.2 j (by simpa using hj) (by simpa using hj)).1
        rw [List.getElem_map, hje] at h7
        exact ⟨h6, h7⟩
      obtain ⟨av, cv, rfl⟩ := owns_shape hown
      obtain ⟨ae, ce, rfl⟩ := owns_shape hent
      have hE : e ≤ 8388608 ∧ s ≤ 549755813888 := by
        have := (okStamp_iff _ _).1 HOK.out.1.1
        exact ⟨by omega, by omega⟩
      have hes : Ents wr ae (esOf M ps) := fun hp => by
        have hel : (esOf M ps).length = ps.length := by simp [esOf]
        rw [hel] at hp
        rcases hent.2 with ⟨hv, hn⟩ | ⟨gv, cap', cur, hv, _⟩
        · omega
        · have ha : ae = some ⟨gv, 0, none⟩ := by simpa using (Value.slice.inj hv).1
          subst ha
          refine ⟨gv, 0, rfl, fun j hj => ?_⟩
          rw [hel] at hj
          obtain ⟨e1, e2⟩ := entC_at ps j hj
          have hb : (Value.slice (some ⟨gv, 0, none⟩) k ce).ownBlock = some gv := rfl
          have k1 := hent.cells hb _ _ e1
          have k2 := hent.cells hb _ _ e2
          rw [Addr.add_lit] at k1 k2
          have hm := List.getElem_mem hj
          obtain ⟨a1, a2, a3⟩ := hJ.rows _ hm
          have hx : (esOf M ps)[j]'(by rw [hel]; exact hj) = (ps[j].b.toNat, hdB M ps[j].xs) := by simp [esOf]
          obtain ⟨x1, x2, x3⟩ := hxs _ hm
          have hlen64 : (hdB M ps[j].xs).length = 64 := by
            have := (hideTo_length ps[j].xs M x1 hML (List.finRange 8)).2
            unfold hdB
            rw [this]
            simp
          have hd : 64 ≤ ps[j].d ∧ ps[j].d ≤ 9223372036854775807 := by
            obtain ⟨cur2, _, y1, y2, _⟩ := a2
            unfold maxLen at y2
            omega
          rw [hx]
          have eb : ((ps[j].b.toNat : Nat) : Int) = ps[j].b := by omega
          exact ⟨by dsimp only; rw [eb]; exact k1, _, _, _, by rw [Nat.add_assoc]; exact k2, hd.1, hd.2, hlen64, a2.rd⟩
      have hbl : ∀ x ∈ esOf M ps, x.1 ≤ 511 := fun x hx => by
        obtain ⟨p, hp, rfl⟩ := List.mem_map.1 hx
        have := hxs p hp
        show p.b.toNat ≤ 511
        omega
      have cH := putHeading_in e s ae k ce (esOf M ps) wr hE.1 hE.2 (by simp [esOf, hpl]) (by omega) h2 hes hbl
      have HBL : Hid _ := hbl
      have HES : Hid _ := hes
      have HXS : Hid (∀ p ∈ ps, p.xs.length = 4096 ∧ 0 ≤ p.b ∧ p.b ≤ 511) := hxs
      clear hbl hes hxs
      have y0 := bH.cell 0
      have y1 := bH.cell 1
      have y2 := bH.cell 2
      go_wp2_with fail
      refine cH.mono ?_
      rintro r W ⟨h0, rfl, hh0, r0, hbW⟩
      replace hown := owns_below hown hbW
      have hap : h0 ∉ ps.map PP.h := fun hm => by
        obtain ⟨p, hp, he⟩ := List.mem_map.1 hm
        have := (hJ.rows p hp).1.lt
        omega
      replace hJ := hJ.below hbW
      have hw0 := hB.size
      replace hB := hB.trans (hbW.mono hB.size)
      have hown0 := hown
      rcases hown.2 with ⟨_, hv⟩ | ⟨gv, cap', cur, hv, hgv, hbox, hc1, hc2, hc3, hc4⟩
      · omega
      · obtain ⟨rfl, _, rfl⟩ : av = some ⟨gv, 0, none⟩ ∧ k + 1 = k + 1 ∧ cv = cap' := by simpa using hv
        have hbx : Box W gv cur 37 := hbox
        have t0 : W.cell? ⟨gv, 0, none⟩ = some (.slice none 0 0) := by
          have := hown0.cells (g := gv) rfl 0 (.slice none 0 0) rfl
          rwa [Addr.add_lit] at this
        have f0 := hbx.frozen 0
        have hst := hbx.store 0 (.slice (some ⟨h0, 0, none⟩) 4096 4096)
        have J2 := hJ.store (j := 0) hbx (by decide) (.slice (some ⟨h0, 0, none⟩) 4096 4096)
        have r02 := rowB_store (j := 0) r0 hbx (by decide) (.slice (some ⟨h0, 0, none⟩) 4096 4096)
        have B2 := hB.setCell (p := ⟨gv, 0, none⟩) hgv (.slice (some ⟨h0, 0, none⟩) 4096 4096)
        have own2 : (W.setCell ⟨gv, 0, none⟩ (.slice (some ⟨h0, 0, none⟩) 4096 4096)).ownsRow w.heap.size 37 1 (.slice (some ⟨gv, 0, none⟩) (k + 1) cv) (k + 1) (.slice (some ⟨h0, 0, none⟩) 4096 4096 :: rowC ps) := by
          refine ⟨by simp [rowC, hpl], .inr ⟨gv, cv, cur.setIfInBounds 0 (.slice (some ⟨h0, 0, none⟩) 4096 4096), rfl, hgv, hst, hc1, hc2, by simpa using hc3, ?_⟩⟩
          have e5 : (cur.setIfInBounds 0 (.slice (some ⟨h0, 0, none⟩) 4096 4096)).toList = cur.toList.set 0 (.slice (some ⟨h0, 0, none⟩) 4096 4096) := by simp
          rw [e5, List.take_set, hc4]
          rfl
        clear hown hown0 hbox hst hbx hv cH hJ r0 hB bH bG hent
        go_wp2
        go_ret2
        exact ⟨gv, cv, h0, ps, rfl, hgv, own2, by rw [HM.out] at r02; exact r02, hap, by omega, by rw [HM.out] at J2; exact J2, hps, B2⟩
end Go.Proofs.YtnldkpckojhbhaaGreat.Rc

/-
  bodyOf.
-/
namespace Go.Proofs.YtnldkpckojhbhaaGreat.Rc
open Go.RowKit Go.Shelf
attribute [local go_sem] Oper.semAt_some

def bodyTo (xs : List UInt8) (pre : List (Fin 8)) : List UInt8 := pre.flatMap fun x => (sec xs x.val).drop 8
theorem bodyTo_snoc (xs : List UInt8) (pre : List (Fin 8)) (x : Fin 8) : bodyTo xs (pre ++ [x]) = bodyTo xs pre ++ (sec xs x.val).drop 8 := by simp [bodyTo]

theorem bodyOf_round (w W : World) (k0 k1 : Nat) (cs : Array Value) (xs : List UInt8) (pre : List (Fin 8)) (v : Value) (x : Fin 8) (h01 : k0 < k1) (hw : w.heap.size < k0) (hB : Below w.heap.size w W)
    (hv : Box W k0 #[v] 37) (hown : W.ownsRow w.heap.size 5 1 v (pre.length * 504) (bcs (bodyTo xs pre))) (hk : Box W k1 cs 37)
    (v' : Value) (w2 : World) (hown2 : w2.ownsRow w.heap.size 5 1 v' (pre.length * 504 + 504) (bcs (bodyTo xs pre) ++ bcs ((sec xs x.val).drop 8))) (hg2 : W.drew.grownBy w2 v.ownBlock) :
    w2.cell? ⟨k0, 0, none⟩ = some v ∧ w2.frozen? ⟨k0, 0, none⟩ = false ∧ KeepsOthers W (w2.setCell ⟨k0, 0, none⟩ v') ∧ (w2.setCell ⟨k0, 0, none⟩ v').heap[k1]? = W.heap[k1]? ∧
      Box (w2.setCell ⟨k0, 0, none⟩ v') k0 #[v'] 37 ∧ ((w2.setCell ⟨k0, 0, none⟩ v').ownsRow w.heap.size 5 1 v' ((pre ++ [x]).length * 504) (bcs (bodyTo xs (pre ++ [x]))) ∧ Box (w2.setCell ⟨k0, 0, none⟩ v') k1 cs 37) ∧ Below w.heap.size w (w2.setCell ⟨k0, 0, none⟩ v') := by
  have hne : ∀ g', v.ownBlock = some g' → w.heap.size ≤ g' ∧ g' ≠ k0 ∧ g' ≠ k1 := fun g' e => by
    obtain ⟨q1, cur, q2⟩ := owns_block hown g' e
    exact ⟨q1, q2.ne hv (by decide), q2.ne hk (by decide)⟩
  have hv2 : Box w2 k0 #[v] 37 := Box.grown (w := W.drew) hv hg2 (fun e => (hne _ e).2.1 rfl)
  have hk2 : Box w2 k1 cs 37 := Box.grown (w := W.drew) hk hg2 (fun e => (hne _ e).2.2 rfl)
  have hB2 : Below w.heap.size w w2 := (hB.drew).grown hg2 hB.size (fun k e => (hne _ e).1)
  have a1 : w2.heap[k1]? = W.heap[k1]? := hg2.block k1 hk.lt (fun e => (hne _ e.symm).2.2 rfl)
  have a2 : (w2.setCell ⟨k0, 0, none⟩ v').heap[k1]? = w2.heap[k1]? := heap_setCell_other w2 ⟨k0, 0, none⟩ k1 v' (by show k1 ≠ k0; omega)
  refine ⟨hv2.cell 0, hv2.frozen 0, ((KeepsOthers.drew W).trans (keeps_owns (w := W.drew) hown hg2)).trans (KeepsOthers.setCell w2 _ _), a2.trans a1, ?_, ⟨?_, a2.trans hk2⟩, hB2.setCell (p := ⟨k0, 0, none⟩) (by show w.heap.size ≤ k0; omega) v'⟩
  · have := hv2.store 0 v'; simpa using this
  · have e1 : (pre ++ [x]).length * 504 = pre.length * 504 + 504 := by simp; omega
    rw [e1, bodyTo_snoc, bcs_append]
    refine owns_grown hown2 (grown_store w2 k0 0 v') (fun g' e => ?_)
    obtain ⟨_, cur, q⟩ := owns_block hown2 g' e
    intro e2
    cases e2
    exact q.ne hv2 (by decide) rfl

set_option maxRecDepth 100000 in
set_option maxHeartbeats 4000000 in
theorem bodyOf_in (g o cap : Nat) (xs : List UInt8) (w : World) (hl : xs.length = 4096) (hcap : 4096 ≤ cap) (hmax : cap ≤ 9223372036854775807) (hr : Rd w (some ⟨g, o, none⟩) xs) :
    Calls Tryz.prog 295 #[.slice (some ⟨g, o, none⟩) 4096 cap] w fun r w' => ∃ v, r = .returned v ∧ w'.ownsRow w.heap.size 5 1 v 4032 (bcs (bodyTo xs (List.finRange 8))) ∧ Below w.heap.size w w' := by
  refine (callsIn_wide (n := 3)).1 ?_
  obtain ⟨i0, hi, hz0, hz1, hz2⟩ := info_parts info5
  obtain ⟨w1, hmk, ow1, hg1⟩ := run_makeSlice_owned (P := Tryz.prog) w w.heap.size 37 5 i0 (.int .u8 0) 1 Tryz.underlying37 hi hz0 hz1 .i64 .i64 4032 (by omega) (by rw [hz2]; omega) (by unfold maxLen; omega) (Nat.le_refl _)
  have hmk' : (Instr.makeSlice 37 (.int .i64 0) (.int .i64 4032)).run Tryz.prog w = .ok (.slice (some ⟨w.heap.size, 0, none⟩) 0 4032) w1 := hmk
  clear hmk hi hz0 hz1 hz2
  have B1 : Below w.heap.size w w1 := (Below.refl _ _).grown hg1 (Nat.le_refl _) (fun k e => by cases e)
  refine callsIn_of_wp_marks Tryz.func295 rfl trivial ?_ rfl
  simp only [Tryz.ntmps295, List.size_toArray, List.length_cons, List.length_nil, Nat.reduceAdd, Nat.reduceSub, Array.replicate_succ, Array.replicate_zero, List.push_toArray, List.append_toArray, List.nil_append, List.cons_append]
  gi_wp2_with fail
  refine ⟨trivial, ?_⟩
  refine (sectors_in 2 _ _ _ _).mono ?_
  rintro r w' ⟨rfl, rfl⟩
  gi_wp2_with fail
  have hlt : w.heap.size < w1.heap.size := by
    obtain ⟨_, cur, q⟩ := owns_block ow1 w.heap.size rfl
    exact q.lt
  have b0 := (Box.new w1 #[.slice (some ⟨w.heap.size, 0, none⟩) 0 4032] 37)
  have b0' := b0.alloc (.cells #[.slice (some ⟨g, o, none⟩) 4096 cap] 37)
  have b1 := Box.new (w1.alloc (.cells #[.slice (some ⟨w.heap.size, 0, none⟩) 0 4032] 37)) #[.slice (some ⟨g, o, none⟩) 4096 cap] 37
  have s1 : (w1.alloc (.cells #[.slice (some ⟨w.heap.size, 0, none⟩) 0 4032] 37)).heap.size = w1.heap.size + 1 := by simp
  rw [s1] at b1
  have B2 := (B1.alloc B1.size (.cells #[.slice (some ⟨w.heap.size, 0, none⟩) 0 4032] 37)).alloc (by simp; omega) (.cells #[.slice (some ⟨g, o, none⟩) 4096 cap] 37)
  have ow2 := owns_grown (owns_grown ow1 (World.grownBy_alloc w1 (.cells #[.slice (some ⟨w.heap.size, 0, none⟩) 0 4032] 37) none) (fun _ _ e => by cases e)) (World.grownBy_alloc _ (.cells #[.slice (some ⟨g, o, none⟩) 4096 cap] 37) none) (fun _ _ e => by cases e)
  obtain ⟨W0, hW0⟩ : ∃ W, W = (w1.alloc (.cells #[.slice (some ⟨w.heap.size, 0, none⟩) 0 4032] 37)).alloc (.cells #[.slice (some ⟨g, o, none⟩) 4096 cap] 37) := ⟨_, rfl⟩
  have s3 : W0.heap.size = w1.heap.size + 2 := by rw [hW0]; simp
  rw [← hW0] at b0' b1 B2 ow2 ⊢
  clear hW0 b0 s1 B1 hmk' ow1 hg1
  obtain ⟨k0, hk0⟩ : ∃ k, k = w1.heap.size := ⟨_, rfl⟩
  rw [← hk0] at b0' b1 s3 hlt ⊢
  clear hk0
  obtain ⟨k1, hk1⟩ : ∃ k, k = k0 + 1 := ⟨_, rfl⟩
  rw [← hk1] at b1 ⊢
  have h01 : k0 < k1 := by omega
  have hs3 : k1 + 1 ≤ W0.heap.size := by omega
  have hs4 : w.heap.size < W0.heap.size := by omega
  clear s3 hk1
  have HL : Hid _ := hl
  clear hl
  refine wpIn_rangeFunc_ownH (α := Fin 8) rfl (by omega) (gf := 268) (lb := #[.pointer (some ⟨k1, 0, none⟩)]) rfl trivial (enters_of Tryz.func268 (by kernel_rfl) rfl)
    (sect_stops (3 - 1) (by omega) k1 g o cap hcap hmax W0 (by omega) (b1.cell 0)) cellK_t (cellK_b (by omega)) (Below.refl _ _) (fun _ => rfl)
    (fun pre W => (∃ v, Box W k0 #[v] 37 ∧ W.ownsRow w.heap.size 5 1 v (pre.length * 504) (bcs (bodyTo xs pre)) ∧ Box W k1 #[.slice (some ⟨g, o, none⟩) 4096 cap] 37) ∧ Below w.heap.size w W)
    (fun c _ W => False ∧ Below w.heap.size w W)
    (OwnFrom.and (Own.from (fun s A B row hs hg hr => by
      obtain ⟨v, a1, a2, a3⟩ := hs
      exact ⟨v, a1.kept hg hr, owns_kept a2 hg hr, a3.kept hg hr⟩) _) (ownFrom_below (Nat.le_refl _) (by omega)))
    (fun c => OwnFrom.and (Own.from (fun s A B row hs hg hr => hs) _) (ownFrom_below (Nat.le_refl _) (by omega)))
    ⟨⟨_, b0', by simpa [bodyTo, bcs] using ow2, b1⟩, B2⟩
    (fun x a' _ => a' = { tmps := #[.slice (some ⟨g, o, none⟩) 4096 cap, undef, .slice none 0 0, .pointer (some ⟨k0, 0, none⟩), .slice (some ⟨g, o + x.val * 512, none⟩) 512 512, .slice (some ⟨w.heap.size, 0, none⟩) 0 4032, .slice (some ⟨g, o, none⟩) 4096 cap, .func (.func 268) #[] #[.pointer (some ⟨k1, 0, none⟩)], .slice (some ⟨g, o + x.val * 512, none⟩) 512 512, undef, undef, undef, undef, undef], defers := [] })
    (fun x a' => ownFrom_pure _ _) ?assign ?body ?done ?stop
  case assign =>
    rintro l pre x W K hI hK
    dsimp only [encS]
    gi_wp2
    exact hK _ _ (KeepsFrom.refl _ _) rfl hI rfl
  case body =>
    rintro l pre x a' W hlw ⟨r, hr1⟩ ⟨⟨v, q2, q3, q4⟩, hB⟩ rfl hlt2
    have HR : Hid _ := bodyOf_round w W k0 k1 _ xs pre v x h01 hlt hB q2 q3 q4
    have hsz1 : w.heap.size ≤ W.drew.heap.size := hB.size
    have hs8 : ((sec xs x.val).drop 8).length = 504 := by have := sec_length xs x.val HL.out x.isLt; simp [this]
    have hr8 : Rd W (some ⟨g, o + x.val * 512 + 8, none⟩) ((sec xs x.val).drop 8) := by
      have := (sec_part (hr.below hB (Nat.le_refl _)) x).part 8 504
      have e : ((sec xs x.val).drop 8).take 504 = (sec xs x.val).drop 8 := List.take_of_length_le (by omega)
      rw [e] at this
      exact this
    have d5 : W.drew.cell? ⟨k0, 0, none⟩ = some v := q2.cell 0
    clear q2 q4
    gi_wp2_with fail
    refine wpIn_region_any (by kernel_rfl) ?_
    change wpAnyIn _ _ _ _ _ _ _ _ _ (World.drew _)
    refine wpAnyIn_ready (rs := [0, 1]) (by kernel_rfl) (by simp) ?_
    refine AllReadyIn.cons rfl (fun K hK2 => ?_) ?_
    · skip
      go_simp
      refine hK2 _ _ ?_
      clear hK2 K
      refine wpAnyIn_ready (rs := [1]) (by kernel_rfl) (by simp) ?_
      refine AllReadyIn.cons rfl (fun K hK2 => ?_) ?_
      · skip
        go_simp
        refine hK2 _ _ ?_
        clear hK2 K
        refine wpAnyIn_ready (rs := [2]) (by kernel_rfl) (by simp) ?_
        refine AllReadyIn.cons rfl (fun K hK2 => ?_) ?_
        · skip
          go_simp
          refine hK2 _ _ ?_
          clear hK2 K
          refine wpAnyIn_ready (rs := [3]) (by kernel_rfl) (by simp) ?_
          refine AllReadyIn.cons rfl (fun K hK2 => ?_) ?_
          · skip
            refine wpIn_append_bytes rfl _ _ rfl w.heap.size v (pre.length * 504) _ rfl (show W.drew.ownsRow _ _ _ _ _ _ from q3) g (o + x.val * 512 + 8) 504 504 ((sec xs x.val).drop 8) rfl hs8 (show Rd W.drew _ _ from hr8) (by omega) hsz1 ?_
            intro v' w2 hown2 hg2
            refine hK2 _ _ ?_
            clear hK2 K
            obtain ⟨e1, e2, e3, e4, e5, e6, e7⟩ := HR.out v' w2 hown2 hg2
            obtain ⟨av, cv, rfl⟩ := owns_shape hown2
            refine wpAnyIn_ready (rs := [4]) (by kernel_rfl) (by simp) ?_
            refine AllReadyIn.cons rfl (fun K hK2 => ?_) ?_
            · skip
              go_simp
              refine hK2 _ _ ?_
              clear hK2 K
              refine wpAnyIn_done (by kernel_rfl) ?_ _
              gi_wp2
              exact ⟨e3.from _, World.cell?_of_block (a := ⟨k1, 0, none⟩) e4, ⟨⟨_, e5, e6⟩, e7⟩⟩
            exact AllReadyIn.nil
          exact AllReadyIn.nil
        exact AllReadyIn.nil
      exact AllReadyIn.nil
    refine AllReadyIn.cons rfl (fun K hK2 => ?_) ?_
    · skip
      go_simp
      refine hK2 _ _ ?_
      clear hK2 K
      refine wpAnyIn_ready (rs := [0, 2]) (by kernel_rfl) (by simp) ?_
      refine AllReadyIn.cons rfl (fun K hK2 => ?_) ?_
      · skip
        go_simp
        refine hK2 _ _ ?_
        clear hK2 K
        refine wpAnyIn_ready (rs := [2]) (by kernel_rfl) (by simp) ?_
        refine AllReadyIn.cons rfl (fun K hK2 => ?_) ?_
        · skip
          go_simp
          refine hK2 _ _ ?_
          clear hK2 K
          refine wpAnyIn_ready (rs := [3]) (by kernel_rfl) (by simp) ?_
          refine AllReadyIn.cons rfl (fun K hK2 => ?_) ?_
          · skip
            refine wpIn_append_bytes rfl _ _ rfl w.heap.size v (pre.length * 504) _ rfl (show W.drew.ownsRow _ _ _ _ _ _ from q3) g (o + x.val * 512 + 8) 504 504 ((sec xs x.val).drop 8) rfl hs8 (show Rd W.drew _ _ from hr8) (by omega) hsz1 ?_
            intro v' w2 hown2 hg2
            refine hK2 _ _ ?_
            clear hK2 K
            obtain ⟨e1, e2, e3, e4, e5, e6, e7⟩ := HR.out v' w2 hown2 hg2
            obtain ⟨av, cv, rfl⟩ := owns_shape hown2
            refine wpAnyIn_ready (rs := [4]) (by kernel_rfl) (by simp) ?_
            refine AllReadyIn.cons rfl (fun K hK2 => ?_) ?_
            · skip
              go_simp
              refine hK2 _ _ ?_
              clear hK2 K
              refine wpAnyIn_done (by kernel_rfl) ?_ _
              gi_wp2
              exact ⟨e3.from _, World.cell?_of_block (a := ⟨k1, 0, none⟩) e4, ⟨⟨_, e5, e6⟩, e7⟩⟩
            exact AllReadyIn.nil
          exact AllReadyIn.nil
        exact AllReadyIn.nil
      refine AllReadyIn.cons rfl (fun K hK2 => ?_) ?_
      · skip
        go_simp
        refine hK2 _ _ ?_
        clear hK2 K
        refine wpAnyIn_ready (rs := [0]) (by kernel_rfl) (by simp) ?_
        refine AllReadyIn.cons rfl (fun K hK2 => ?_) ?_
        · skip
          go_simp
          refine hK2 _ _ ?_
          clear hK2 K
          refine wpAnyIn_ready (rs := [3]) (by kernel_rfl) (by simp) ?_
          refine AllReadyIn.cons rfl (fun K hK2 => ?_) ?_
          · skip
            refine wpIn_append_bytes rfl _ _ rfl w.heap.size v (pre.length * 504) _ rfl (show W.drew.ownsRow _ _ _ _ _ _ from q3) g (o + x.val * 512 + 8) 504 504 ((sec xs x.val).drop 8) rfl hs8 (show Rd W.drew _ _ from hr8) (by omega) hsz1 ?_
            intro v' w2 hown2 hg2
            refine hK2 _ _ ?_
            clear hK2 K
            obtain ⟨e1, e2, e3, e4, e5, e6, e7⟩ := HR.out v' w2 hown2 hg2
            obtain ⟨av, cv, rfl⟩ := owns_shape hown2
            refine wpAnyIn_ready (rs := [4]) (by kernel_rfl) (by simp) ?_
            refine AllReadyIn.cons rfl (fun K hK2 => ?_) ?_
            · skip
              go_simp
              refine hK2 _ _ ?_
              clear hK2 K
              refine wpAnyIn_done (by kernel_rfl) ?_ _
              gi_wp2
              exact ⟨e3.from _, World.cell?_of_block (a := ⟨k1, 0, none⟩) e4, ⟨⟨_, e5, e6⟩, e7⟩⟩
            exact AllReadyIn.nil
          exact AllReadyIn.nil
        exact AllReadyIn.nil
      exact AllReadyIn.nil
    exact AllReadyIn.nil
  case done =>
    rintro D' ys W hD rfl ⟨⟨v, q2, q3, q4⟩, hB⟩ hK
    have d0 := q2.cell 0
    have e8 : (List.finRange 8).length * 504 = 4032 := by simp
    rw [e8] at q3
    obtain ⟨av, cv, rfl⟩ := owns_shape q3
    gi_wp2
    refine ⟨by simp, .inl ⟨_, _, rfl, run_takeDeferred hK, ?_⟩⟩
    exact ⟨_, by simp [results, Tryz.f295, go_sem], _, rfl, owns_kept q3 (grownBy_putObj' _ D' (.deferred none)) (fun r e => by cases e; exact ⟨_, hK, rfl⟩), hB.trans (belowK_b (w := w) (Nat.le_refl _) _ D' _ _ (by omega) hK rfl rfl)⟩
  case stop =>
    rintro D' c pre W hD _ ⟨hf, _⟩ hK
    exact hf.elim
end Go.Proofs.YtnldkpckojhbhaaGreat.Rc

/-
  getHeading.
-/
namespace Go.Proofs.YtnldkpckojhbhaaGreat.Rc
open Go.RowKit

def saidE (xs : List UInt8) : Nat := beNat (xs.take 8) / 1099511627776
def saidS (xs : List UInt8) : Nat := beNat (xs.take 8) % 1099511627776
def bodyX (xs : List UInt8) : List UInt8 := bodyTo xs (List.finRange 8)
def saidEs (xs : List UInt8) : List (Nat × List UInt8) := if cntOf (bodyX xs) ≤ 32 then entsOf (bodyX xs) (cntOf (bodyX xs)) else []
def isHead (xs : List UInt8) : Prop := xs.length = 4096 ∧ okHead (saidE xs) (saidS xs) ((saidEs xs).map fun e => (e.1 : Int)) ∧ xs = headB (saidE xs) (saidS xs) (saidEs xs)

theorem bodyX_length (xs : List UInt8) (hl : xs.length = 4096) : (bodyX xs).length = 4032 := by
  unfold bodyX bodyTo
  have : ∀ pre : List (Fin 8), (pre.flatMap fun x => (sec xs x.val).drop 8).length = pre.length * 504 := by
    intro pre
    induction pre with
    | nil => rfl
    | cons x pre ih =>
      have := sec_length xs x.val hl x.isLt
      rw [List.flatMap_cons, List.length_append, ih, List.length_drop, this, List.length_cons]
      omega
  rw [this]
  simp

theorem be8_lt (l : List UInt8) : beNat (l.take 8) < 18446744073709551616 := beNat_take_lt l 8 (by omega)

def EntsB (B : Nat) (w : World) (a : Option Addr) (es : List (Nat × List UInt8)) : Prop :=
  Ents w a es ∧ (0 < es.length → ∀ b o, a = some ⟨b, o, none⟩ → B ≤ b ∧ ∀ j, j < es.length → ∀ g q c, w.cell? ⟨b, o + j * 2 + 1, none⟩ = some (.slice (some ⟨g, q, none⟩) 64 c) → B ≤ g)
theorem EntsB.below {B : Nat} {w w' : World} {a : Option Addr} {es : List (Nat × List UInt8)} (h : EntsB B w a es) (hb : Below w.heap.size w w') : EntsB B w' a es := by
  refine ⟨h.1.below hb, fun hp b o ha => ?_⟩
  obtain ⟨h1, h2⟩ := h.2 hp b o ha
  refine ⟨h1, fun j hj g q c hc => h2 j hj g q c ?_⟩
  obtain ⟨b', o', ha', hc'⟩ := h.1 hp
  rw [ha] at ha'
  cases ha'
  have hlt : b < w.heap.size := block_lt_of_cell (hc' j hj).1
  rw [← hb.cell (p := ⟨b, o + j * 2 + 1, none⟩) hlt]
  exact hc
theorem EntsB.store {B x i : Nat} {w : World} {a : Option Addr} {es : List (Nat × List UInt8)} {u : Value} (h : EntsB B w a es) (hx : x < B) : EntsB B (w.setCell ⟨x, i, none⟩ u) a es := by
  have hup : Upd (fun k => k = x) w (w.setCell ⟨x, i, none⟩ u) := Upd.setCell (g := x) (Upd.refl (fun k => k = x) w) (.inl rfl) u
  have hcell : ∀ b k, B ≤ b → (w.setCell ⟨x, i, none⟩ u).cell? ⟨b, k, none⟩ = w.cell? ⟨b, k, none⟩ := fun b k hb => World.cell?_of_block (a := ⟨b, k, none⟩) (heap_setCell_other w ⟨x, i, none⟩ b u (by show b ≠ x; omega))
  refine ⟨fun hp => ?_, fun hp b o ha => ?_⟩
  · obtain ⟨b, o, ha, hc⟩ := h.1 hp
    obtain ⟨h1, h2⟩ := h.2 hp b o ha
    refine ⟨b, o, ha, fun j hj => ?_⟩
    obtain ⟨q1, g, q, c, q2, q3, q4, q5, q6⟩ := hc j hj
    have hg := h2 j hj g q c q2
    exact ⟨(hcell _ _ h1).trans q1, g, q, c, (hcell _ _ h1).trans q2, q3, q4, q5, q6.upd hup (by show ¬ g = x; omega)⟩
  · obtain ⟨h1, h2⟩ := h.2 hp b o ha
    exact ⟨h1, fun j hj g q c hc => h2 j hj g q c ((hcell _ _ h1).symm.trans hc)⟩

def GetH (w : World) (xs : List UInt8) (r : Ending) (w' : World) : Prop :=
  (isHead xs ∧ ∃ a c, r = .returned (.tuple #[.agg #[.int .i64 (saidE xs : Int), .int .i64 (saidS xs : Int), .slice a (saidEs xs).length c], .bool true]) ∧ Ents w' a (saidEs xs) ∧ Below w.heap.size w w') ∨
  (¬ isHead xs ∧ r = .returned (.tuple #[.agg #[.int .i64 0, .int .i64 0, .slice none 0 0], .bool false]) ∧ Below w.heap.size w w')

set_option maxRecDepth 100000 in
theorem getHeading_short (a : Option Addr) (n cap : Nat) (xs : List UInt8) (w : World) (hl : xs.length = n) (hn : n ≠ 4096) :
    Calls Tryz.prog 290 #[.slice a n cap] w (GetH w xs) := by
  have hne : ((n : Int) != 4096) = true := by simp; omega
  have hno : Hid (¬ isHead xs) := fun h => hn (by rw [← hl]; exact h.1)
  have b0 := Box.new w #[.int .i64 0, .int .i64 0, .slice none 0 0] 250
  have y0 := b0.cell 0
  have y1 := b0.cell 1
  have y2 := b0.cell 2
  have B0 := (Below.refl w.heap.size w).alloc (Nat.le_refl _) (.cells #[.int .i64 0, .int .i64 0, .slice none 0 0] 250)
  clear hl
  go_enter Tryz.func290, Tryz.ntmps290
  go_wp2
  refine bodyPost_ret (v := .tuple #[.agg #[.int .i64 0, .int .i64 0, .slice none 0 0], .bool false]) (by simp [results, Tryz.results290, go_sem]) rfl ?_
  exact .inr ⟨hno.out, rfl, B0⟩

set_option maxRecDepth 100000 in
set_option maxHeartbeats 4000000 in
theorem getHeading_in (g o cap : Nat) (xs : List UInt8) (w : World) (hl : xs.length = 4096) (hcap : 4096 ≤ cap) (hmax : cap ≤ 9223372036854775807) (hr : Rd w (some ⟨g, o, none⟩) xs) :
    Calls Tryz.prog 290 #[.slice (some ⟨g, o, none⟩) 4096 cap] w (GetH w xs) := by
  have n8 : numAt xs 0 8 = some (beNat (xs.take 8)) := by have := numAt_some (xs := xs) (k := 0) (size := 8) (by omega); simpa using this
  have B0 := (Below.refl w.heap.size w).alloc (Nat.le_refl _) (.cells #[.int .i64 0, .int .i64 0, .slice none 0 0] 250)
  have b0 := Box.new w #[.int .i64 0, .int .i64 0, .slice none 0 0] 250
  have cU : ∀ u, Below w.heap.size w u → _ := fun u hb => u64_at cap 4096 (some ⟨g, o, none⟩) xs 0 (beNat (xs.take 8)) _ u rfl hl (by omega) (hr.below hb (Nat.le_refl _)) n8
  have cB : ∀ u, Below w.heap.size w u → _ := fun u hb => bodyOf_in g o cap xs u hl hcap hmax (hr.below hb (Nat.le_refl _))
  have hv := be8_lt xs
  have cS : ∀ u, _ := fun u => unstamp_at (beNat (xs.take 8)) _ u rfl hv
  have HE : Hid (saidE xs = beNat (xs.take 8) / 1099511627776) := rfl
  have HS : Hid (saidS xs = beNat (xs.take 8) % 1099511627776) := rfl
  rw [← HE.out, ← HS.out] at cS
  have hbl := bodyX_length xs hl
  have HBX : Hid (bodyTo xs (List.finRange 8) = bodyX xs) := rfl
  rw [HBX.out] at cB
  have HEs : Hid (saidEs xs = if cntOf (bodyX xs) ≤ 32 then entsOf (bodyX xs) (cntOf (bodyX xs)) else []) := rfl
  have HIS : Hid (isHead xs ↔ okHead (saidE xs) (saidS xs) ((saidEs xs).map fun e => (e.1 : Int)) ∧ xs = headB (saidE xs) (saidS xs) (saidEs xs)) := ⟨fun h => h.2, fun h => ⟨hl, h⟩⟩
  have HL : Hid _ := hl
  unfold GetH
  generalize isHead xs = IS at HIS ⊢
  generalize saidE xs = E at cS HIS HE ⊢
  generalize saidS xs = S at cS HIS HS ⊢
  generalize saidEs xs = es at HIS HEs ⊢
  generalize bodyX xs = BB at cB hbl HEs
  generalize beNat (xs.take 8) = v at cU cS hv
  clear n8 hl HBX
  go_enter Tryz.func290, Tryz.ntmps290
  go_wp2_with fail
  refine (cU _ B0).mono ?_
  rintro r w' ⟨rfl, rfl⟩
  clear cU
  go_wp2_with fail
  refine (cB _ B0).mono ?_
  rintro r w1 ⟨vb, rfl, ob, hb1⟩
  clear cB
  replace b0 := b0.below hb1
  have B1 := B0.trans (hb1.mono B0.size)
  obtain ⟨gb, cb, rfl, hgb, rb⟩ := RowB.owns ob (by omega)
  have hgb1 : w.heap.size + 1 ≤ gb := by have : (w.alloc (.cells #[.int .i64 0, .int .i64 0, .slice none 0 0] 250)).heap.size = w.heap.size + 1 := by simp
                                         omega
  have hw11 : w.heap.size + 1 ≤ w1.heap.size := by have : (w.alloc (.cells #[.int .i64 0, .int .i64 0, .slice none 0 0] 250)).heap.size = w.heap.size + 1 := by simp
                                                   have := hb1.size
                                                   omega
  have hcb : 4032 ≤ cb ∧ cb ≤ 9223372036854775807 := by
    obtain ⟨cur, _, q1, q2, _⟩ := rb
    unfold maxLen at q2
    omega
  have c52 : Calls Tryz.prog 294 #[.slice (some ⟨gb, 0, none⟩) 4032 cb] w1 fun r w' => ∃ a c, r = .returned (.slice a es.length c) ∧ EntsB (w.heap.size + 1) w' a es ∧ Below w1.heap.size w1 w' := by
    by_cases hc : cntOf BB ≤ 32
    · refine (entriesOf_in gb 0 cb BB w1 hbl hcb.1 hcb.2 rb.rd hc).mono ?_
      rintro r w' ⟨v', rfl, ow, hb'⟩
      obtain ⟨a, c, rfl, hE⟩ := entsOf_ents hbl hcb.1 hcb.2 (rb.rd.below hb' (Nat.le_refl _)) hc ow
      have e1 : es = entsOf BB (cntOf BB) := by rw [HEs.out, if_pos hc]
      refine ⟨a, c, by rw [e1, entsOf_length], ⟨by rw [e1]; exact hE, fun hp b o ha => ?_⟩, hb'⟩
      subst ha
      obtain ⟨z1, _⟩ := owns_block ow b rfl
      refine ⟨by omega, fun j hj g' q c' hc' => ?_⟩
      rw [e1, entsOf_length] at hj
      obtain ⟨_, y2⟩ := entCells_at BB gb 0 cb (cntOf BB) j hj
      have k2 := ow.cells (g := b) rfl _ _ y2
      rw [Addr.add_lit] at k2
      have ho0 : o = 0 := by
        rcases ow.2 with ⟨hv, _⟩ | ⟨gv, cap', cur, hv, _⟩
        · simp at hv
        · have := (Value.slice.inj hv).1
          simp at this
          exact this.2
      subst ho0
      rw [Nat.add_assoc, k2] at hc'
      simp at hc'
      omega
    · refine (entriesOf_many gb 0 cb BB w1 hbl rb.rd (by omega)).mono ?_
      rintro r w' ⟨rfl, rfl⟩
      have e1 : es = [] := by rw [HEs.out, if_neg hc]
      exact ⟨none, 0, by rw [e1]; rfl, ⟨by rw [e1]; intro h; simp at h, by rw [e1]; intro h; simp at h⟩, Below.refl _ _⟩
  clear ob hcb hgb rb
  go_wp2_with fail
  refine c52.mono ?_
  rintro r w2 ⟨a, c, rfl, hEn, hb2⟩
  clear c52
  replace b0 := b0.below hb2
  have B2 := B1.trans (hb2.mono B1.size)
  have hlt2 := b0.lt
  have bh := Box.new w2 #[.int .i64 0, .int .i64 0, .slice a es.length c] 250
  have al := (Below.refl w2.heap.size w2).alloc (Nat.le_refl _) (.cells #[.int .i64 0, .int .i64 0, .slice a es.length c] 250)
  obtain ⟨w3, hw3⟩ : ∃ x, x = w2.alloc (.cells #[.int .i64 0, .int .i64 0, .slice a es.length c] 250) := ⟨_, rfl⟩
  have HW3 : Hid _ := hw3
  obtain ⟨hb, hhb⟩ : ∃ x, x = w2.heap.size := ⟨_, rfl⟩
  have HHB : Hid _ := hhb
  rw [← hw3] at bh al
  rw [← hhb] at bh
  have hbge : w2.heap.size ≤ hb := Nat.le_of_eq hhb.symm
  clear hw3 hhb
  go_wp2_with fail
  rw [← HW3.out, ← HHB.out]
  refine (cS w3).mono ?_
  rintro r w' ⟨rfl, rfl⟩
  clear cS
  have d0 := bh.cell 0
  have f0 := bh.frozen 0
  have bh1 : Box (w3.setCell ⟨hb, 0, none⟩ (.int .i64 (E : Int))) hb #[.int .i64 (E : Int), .int .i64 0, .slice a es.length c] 250 := by have := bh.store 0 (.int .i64 (E : Int)); simpa using this
  have d1 := bh1.cell 1
  have f1 := bh1.frozen 1
  have bh2 : Box ((w3.setCell ⟨hb, 0, none⟩ (.int .i64 (E : Int))).setCell ⟨hb, 1, none⟩ (.int .i64 (S : Int))) hb #[.int .i64 (E : Int), .int .i64 (S : Int), .slice a es.length c] 250 := by have := bh1.store 1 (.int .i64 (S : Int)); simpa using this
  have al2 := (al.setCell (p := ⟨hb, 0, none⟩) hbge (.int .i64 (E : Int))).setCell (p := ⟨hb, 1, none⟩) hbge (.int .i64 (S : Int))
  obtain ⟨w4, hw4⟩ : ∃ x, x = (w3.setCell ⟨hb, 0, none⟩ (.int .i64 (E : Int))).setCell ⟨hb, 1, none⟩ (.int .i64 (S : Int)) := ⟨_, rfl⟩
  have HW4 : Hid _ := hw4
  rw [← hw4] at bh2 al2
  clear hw4 al bh
  have c0 := bh2.cell 0
  have c1 := bh2.cell 1
  have c2 := bh2.cell 2
  have c0' : ((w3.setCell ⟨hb, 0, none⟩ (.int .i64 (E : Int))).setCell ⟨hb, 1, none⟩ (.int .i64 (S : Int))).cell? ⟨hb, 0, none⟩ = some (.int .i64 (E : Int)) := by rw [← HW4.out]; exact c0
  have c1' : ((w3.setCell ⟨hb, 0, none⟩ (.int .i64 (E : Int))).setCell ⟨hb, 1, none⟩ (.int .i64 (S : Int))).cell? ⟨hb, 1, none⟩ = some (.int .i64 (S : Int)) := by rw [← HW4.out]; exact c1
  have c2' : ((w3.setCell ⟨hb, 0, none⟩ (.int .i64 (E : Int))).setCell ⟨hb, 1, none⟩ (.int .i64 (S : Int))).cell? ⟨hb, 2, none⟩ = some (.slice a es.length c) := by rw [← HW4.out]; exact c2
  have cR := rightHeading_at (E : Int) (S : Int) a es.length c (es.map fun e => (e.1 : Int)) w4 (by simp) (hEn.below al2).1.blks
  go_wp2_with fail
  rw [← HW4.out]
  refine cR.mono ?_
  rintro r w5 ⟨q, rfl, hq, hb5⟩
  clear cR c0' c1' c2' d0 f0 d1 f1 bh1
  have bh5 := bh2.below hb5
  have al5 := al2.trans (hb5.mono al2.size)
  have b05 := b0.below al5
  have hE5 := hEn.below al5
  have B5 := B2.trans (al5.mono B2.size)
  have e0 := bh5.cell 0
  have e1 := bh5.cell 1
  have e2 := bh5.cell 2
  have r0 := b05.cell 0
  have r1 := b05.cell 1
  have r2 := b05.cell 2
  cases q with
  | false =>
    have hno : Hid (¬ IS) := fun h => by
      have := hq.2 (HIS.out.1 h).1
      cases this
    clear hq
    have fr0 := b05.frozen 0
    have fr1 := b05.frozen 1
    have fr2 := b05.frozen 2
    go_wp2
    refine bodyPost_ret (v := .tuple #[.agg #[.int .i64 0, .int .i64 0, .slice none 0 0], .bool false]) (by simp [results, Tryz.results290, go_sem, r0, r1, r2]) rfl ?_
    exact .inr ⟨hno.out, rfl, ((B5.setCell (p := ⟨w.heap.size, 0, none⟩) (by simp) _).setCell (p := ⟨w.heap.size, 1, none⟩) (by simp) _).setCell (p := ⟨w.heap.size, 2, none⟩) (by simp) _⟩
  | true =>
    have hok := hq.1 rfl
    clear hq
    obtain ⟨hk1, hk2, hk3⟩ := hok
    have hEb := (okStamp_iff _ _).1 hk1
    have hln : 0 < es.length ∧ es.length ≤ 32 := by have := hk2; rw [List.length_map] at this; omega
    have hbl5 : ∀ x ∈ es, x.1 ≤ 511 := fun x hx => by
      obtain ⟨j, hj, rfl⟩ := List.getElem_of_mem hx
      have h7 := (hk3 j (by simpa using hj) (by simpa using hj)).1
      rw [List.getElem_map] at h7
      have := h7.2
      omega
    have cP := putHeading_in E S a es.length c es w5 (by omega) (by omega) rfl hln.1 hln.2 hE5.1 hbl5
    have HOK : Hid _ := (⟨hk1, hk2, hk3⟩ : okHead (E : Int) (S : Int) (es.map fun e => (e.1 : Int)))
    have HB5 : Hid _ := hbl5
    clear hk1 hk2 hk3 hEb hln hbl5
    go_wp2_with fail
    refine cP.mono ?_
    rintro r w6 ⟨h, rfl, hh, rh, hb6⟩
    clear cP
    have B6 := B5.trans (hb6.mono B5.size)
    have hHl : (headB E S es).length = 4096 := by
      obtain ⟨cur, _, _, _, _, ht⟩ := rh
      unfold headB
      refine putTo_length _ _ _ (nought_length _) (mark_length _ _) ?_ _ (by simp)
      exact bodyB_length es (fun x hx => by
        obtain ⟨j, hj, rfl⟩ := List.getElem_of_mem hx
        obtain ⟨b, o, _, hc⟩ := hE5.1 (by omega)
        obtain ⟨_, _, _, _, _, _, _, q, _⟩ := hc j hj
        exact q) (by have := HOK.out.2.1.2; simpa using this)
    have cQ := equal_at cap 4096 4096 4096 (some ⟨g, o, none⟩) (some ⟨h, 0, none⟩) xs (headB E S es) w6 HL.out hHl (hr.below B6 (Nat.le_refl _)) rh.rd
    have b06 := b05.below hb6
    have bh6 := bh5.below hb6
    have hE6 := hE5.below hb6
    clear rh hh
    have r0' := b06.cell 0
    have r1' := b06.cell 1
    have r2' := b06.cell 2
    have fr0 := b06.frozen 0
    have fr1 := b06.frozen 1
    have fr2 := b06.frozen 2
    have z0 := bh6.cell 0
    have z1 := bh6.cell 1
    have z2 := bh6.cell 2
    by_cases hx : xs = headB E S es
    · have hqq : (xs == headB E S es) = true := by simpa using hx
      rw [hqq] at cQ
      have hyes : Hid IS := HIS.out.2 ⟨HOK.out, hx⟩
      clear hqq hx
      have st0 : Box (w6.setCell ⟨w.heap.size, 0, none⟩ (.int .i64 (E : Int))) w.heap.size #[.int .i64 (E : Int), .int .i64 0, .slice none 0 0] 250 := by have := b06.store 0 (.int .i64 (E : Int)); simpa using this
      have st1 : Box ((w6.setCell ⟨w.heap.size, 0, none⟩ (.int .i64 (E : Int))).setCell ⟨w.heap.size, 1, none⟩ (.int .i64 (S : Int))) w.heap.size #[.int .i64 (E : Int), .int .i64 (S : Int), .slice none 0 0] 250 := by have := st0.store 1 (.int .i64 (S : Int)); simpa using this
      have st2 : Box (((w6.setCell ⟨w.heap.size, 0, none⟩ (.int .i64 (E : Int))).setCell ⟨w.heap.size, 1, none⟩ (.int .i64 (S : Int))).setCell ⟨w.heap.size, 2, none⟩ (.slice a es.length c)) w.heap.size #[.int .i64 (E : Int), .int .i64 (S : Int), .slice a es.length c] 250 := by have := st1.store 2 (.slice a es.length c); simpa using this
      have g1 := st0.frozen 1
      have g2 := st1.frozen 2
      have g1c := st0.cell 1
      have g2c := st1.cell 2
      have m0 := st2.cell 0
      have m1 := st2.cell 1
      have m2 := st2.cell 2
      have B7 := ((B6.setCell (p := ⟨w.heap.size, 0, none⟩) (by simp) (.int .i64 (E : Int))).setCell (p := ⟨w.heap.size, 1, none⟩) (by simp) (.int .i64 (S : Int))).setCell (p := ⟨w.heap.size, 2, none⟩) (by simp) (.slice a es.length c)
      go_wp2_with fail
      refine cQ.mono ?_
      rintro r w' ⟨rfl, rfl⟩
      clear cQ
      have hE7 : Ents _ a es := (((hE6.store (x := w.heap.size) (i := 0) (u := .int .i64 (E : Int)) (by omega)).store (x := w.heap.size) (i := 1) (u := .int .i64 (S : Int)) (by omega)).store (x := w.heap.size) (i := 2) (u := .slice a es.length c) (by omega)).1
      go_wp2
      refine bodyPost_ret (v := .tuple #[.agg #[.int .i64 (E : Int), .int .i64 (S : Int), .slice a es.length c], .bool true]) (by simp [results, Tryz.results290, go_sem, m0, m1, m2]) rfl ?_
      exact .inl ⟨hyes.out, a, c, rfl, hE7, B7⟩
    · have hqq : (xs == headB E S es) = false := by simpa using hx
      rw [hqq] at cQ
      have hno : Hid (¬ IS) := fun h => hx (HIS.out.1 h).2
      clear hqq hx
      go_wp2_with fail
      refine cQ.mono ?_
      rintro r w' ⟨rfl, rfl⟩
      clear cQ
      go_wp2
      refine bodyPost_ret (v := .tuple #[.agg #[.int .i64 0, .int .i64 0, .slice none 0 0], .bool false]) (by simp [results, Tryz.results290, go_sem, r0', r1', r2']) rfl ?_
      exact .inr ⟨hno.out, rfl, ((B6.setCell (p := ⟨w.heap.size, 0, none⟩) (by simp) _).setCell (p := ⟨w.heap.size, 1, none⟩) (by simp) _).setCell (p := ⟨w.heap.size, 2, none⟩) (by simp) _⟩
end Go.Proofs.YtnldkpckojhbhaaGreat.Rc

/-
  unhide.
-/
namespace Go.Proofs.YtnldkpckojhbhaaGreat.Rc
open Go.RowKit Go.Shelf
attribute [local go_sem] Oper.semAt_some

def unhideStep (H : List UInt8) (st : List UInt8 × Nat) (x : Fin 8) : List UInt8 × Nat := (over st.1 (x.val * 512) ((H.drop (st.2 * 8)).take 8), st.2 + 1)
def unhideTo (xs H : List UInt8) (pre : List (Fin 8)) : List UInt8 × Nat := pre.foldl (unhideStep H) (xs, 0)
theorem unhideTo_snoc (xs H : List UInt8) (pre : List (Fin 8)) (x : Fin 8) : unhideTo xs H (pre ++ [x]) = unhideStep H (unhideTo xs H pre) x := by simp [unhideTo]
theorem unhideTo_two (xs H : List UInt8) (pre : List (Fin 8)) : (unhideTo xs H pre).2 = pre.length := by
  unfold unhideTo
  have : ∀ (pre : List (Fin 8)) (st : List UInt8 × Nat), (pre.foldl (unhideStep H) st).2 = st.2 + pre.length := by
    intro pre
    induction pre with
    | nil => intro st; rfl
    | cons x pre ih =>
      intro st
      rw [List.foldl_cons, ih]
      simp [unhideStep]
      omega
  rw [this]
  simp
theorem unhideTo_length (xs H : List UInt8) (hl : xs.length = 4096) (pre : List (Fin 8)) : (unhideTo xs H pre).1.length = 4096 := by
  unfold unhideTo
  have : ∀ (pre : List (Fin 8)) (st : List UInt8 × Nat), st.1.length = 4096 → (pre.foldl (unhideStep H) st).1.length = 4096 := by
    intro pre
    induction pre with
    | nil => intro st h; exact h
    | cons x pre ih =>
      intro st h
      have hx := x.isLt
      rw [List.foldl_cons]
      refine ih _ ?_
      unfold unhideStep
      rw [over_length _ _ _ (by rw [h]; simp; omega)]
      exact h
  exact this pre _ hl

def UnhideI (w : World) (h c gm om cm : Nat) (d : List UInt8) (k : Nat) (W : World) : Prop :=
  RowB W h c d ∧ (∃ o', Box W w.heap.size #[.slice (some ⟨gm, o', none⟩) (64 - k * 8) (cm - k * 8)] 37 ∧ (k < 8 → o' = om + k * 8))

set_option maxRecDepth 100000 in
set_option maxHeartbeats 4000000 in
theorem unhide_in (g o cap gm om cm : Nat) (xs H : List UInt8) (w : World) (hl : xs.length = 4096) (hr : Rd w (some ⟨g, o, none⟩) xs) (hHl : H.length = 64) (hcm0 : 64 ≤ cm) (hcmax : cm ≤ 9223372036854775807) (hH : Rd w (some ⟨gm, om, none⟩) H) :
    Calls Tryz.prog 292 #[.slice (some ⟨g, o, none⟩) 4096 cap, .slice (some ⟨gm, om, none⟩) 64 cm] w fun r w' => ∃ h c, r = .returned (.slice (some ⟨h, 0, none⟩) 4096 c) ∧ w.heap.size ≤ h ∧
      RowB w' h c (unhideTo xs H (List.finRange 8)).1 ∧ Below w.heap.size w w' := by
  refine (callsIn_wide (n := 3)).1 ?_
  have c1 : ∀ u, Below w.heap.size w u → _ := fun u hb => clone_at cap 4096 g o xs u hl (by omega) (by omega) (hr.below hb (Nat.le_refl _))
  refine callsIn_of_wp_marks Tryz.func292 rfl trivial ?_ rfl
  simp only [Tryz.ntmps292, List.size_toArray, List.length_cons, List.length_nil, Nat.reduceAdd, Nat.reduceSub, Array.replicate_succ, Array.replicate_zero, List.push_toArray, List.append_toArray, List.nil_append, List.cons_append]
  gi_wp2_with fail
  refine ⟨trivial, ?_⟩
  refine ((callsIn_wide (n := 2)).2 (c1 _ ((Below.refl _ w).alloc (Nat.le_refl _) _))).mono ?_
  rintro r w1 ⟨h, c, rfl, hh, hrow, hb1⟩
  gi_wp2_with fail
  refine ⟨trivial, ?_⟩
  refine (sectors_in 2 _ _ _ _).mono ?_
  rintro r w' ⟨rfl, rfl⟩
  gi_wp2_with fail
  have bN := Box.new w #[.slice (some ⟨gm, om, none⟩) 64 cm] 37
  have s1 : (w.alloc (.cells #[.slice (some ⟨gm, om, none⟩) 64 cm] 37)).heap.size = w.heap.size + 1 := by simp
  rw [s1] at hh hb1
  have B0 := (Below.refl w.heap.size w).alloc (Nat.le_refl _) (.cells #[.slice (some ⟨gm, om, none⟩) 64 cm] 37)
  have B1 : Below w.heap.size w w1 := B0.trans (hb1.mono (by omega))
  have bN1 : Box w1 w.heap.size #[.slice (some ⟨gm, om, none⟩) 64 cm] 37 := (hb1.block _ (by omega)).trans bN
  have hlt := hrow.lt
  have hcm : 4096 ≤ c ∧ c ≤ 9223372036854775807 := by
    obtain ⟨cur, _, q1, q2, _⟩ := hrow
    unfold maxLen at q2
    omega
  have bS := Box.new w1 #[.slice (some ⟨h, 0, none⟩) 4096 c] 37
  have bN2 := bN1.alloc (.cells #[.slice (some ⟨h, 0, none⟩) 4096 c] 37)
  have rw2 : RowB (w1.alloc (.cells #[.slice (some ⟨h, 0, none⟩) 4096 c] 37)) h c xs := hrow.same (Below.heap_alloc w1 _ h hlt)
  have B2 := B1.alloc B1.size (.cells #[.slice (some ⟨h, 0, none⟩) 4096 c] 37)
  obtain ⟨W0, hW0⟩ : ∃ W, W = w1.alloc (.cells #[.slice (some ⟨h, 0, none⟩) 4096 c] 37) := ⟨_, rfl⟩
  have s3 : W0.heap.size = w1.heap.size + 1 := by rw [hW0]; simp
  rw [← hW0] at bS bN2 rw2 B2 ⊢
  clear hW0 bN s1 B0 hb1 bN1 hrow
  obtain ⟨k1, hk1⟩ : ∃ k, k = w1.heap.size := ⟨_, rfl⟩
  rw [← hk1] at bS s3 hlt ⊢
  clear hk1 B1 c1
  have hs3 : k1 + 1 ≤ W0.heap.size := by omega
  have hs4 : w.heap.size < W0.heap.size := by omega
  have S3 : Hid _ := s3
  clear s3
  have HHL : Hid _ := hHl
  have HL : Hid _ := hl
  clear hHl hl
  have Hh : Hid _ := hh
  clear hh
  obtain ⟨hc1, hc2⟩ := hcm
  have z1 : 64 - 0 * 8 = 64 := rfl
  have z2 : cm - 0 * 8 = cm := by omega
  refine wpIn_rangeFunc_ownH (α := Fin 8) rfl (by omega) (gf := 268) (lb := #[.pointer (some ⟨k1, 0, none⟩)]) rfl trivial (enters_of Tryz.func268 (by kernel_rfl) rfl)
    (sect_stops (3 - 1) (by omega) k1 h 0 c hc1 hc2 W0 (by omega) (bS.cell 0)) cellK_t (cellK_b (by omega)) (Below.refl _ _) (fun _ => rfl)
    (fun pre W => (UnhideI w h c gm om cm (unhideTo xs H pre).1 pre.length W ∧ k1 + 1 ≤ W.heap.size) ∧ Below w.heap.size w W)
    (fun c _ W => False ∧ Below w.heap.size w W)
    (OwnFrom.and (Own.from (fun s A B row hs hg hr => by
      obtain ⟨⟨a1, o', a2, a3⟩, a5⟩ := hs
      exact ⟨⟨a1.kept hg hr, o', a2.kept hg hr, a3⟩, Nat.le_trans a5 hg.size⟩) _) (ownFrom_below (Nat.le_refl _) (by omega)))
    (fun c => OwnFrom.and (Own.from (fun s A B row hs hg hr => hs) _) (ownFrom_below (Nat.le_refl _) (by omega)))
    ⟨⟨⟨rw2, om, by rw [List.length_nil, z1, z2]; exact bN2, fun _ => by simp⟩, hs3⟩, B2⟩
    (fun x a' _ => a' = { tmps := #[.slice (some ⟨g, o, none⟩) 4096 cap, .slice (some ⟨gm, om, none⟩) 64 cm, undef, .pointer (some ⟨w.heap.size, 0, none⟩), .slice none 0 0, .slice (some ⟨h, 0, none⟩) 4096 c, .slice (some ⟨h, x.val * 512, none⟩) 512 512, .slice (some ⟨g, o, none⟩) 4096 cap, .slice (some ⟨h, 0, none⟩) 4096 c, .slice (some ⟨h, 0, none⟩) 4096 c, .func (.func 268) #[] #[.pointer (some ⟨k1, 0, none⟩)], .slice (some ⟨h, x.val * 512, none⟩) 512 512, undef, undef, undef, undef, undef, undef, undef], defers := [] })
    (fun x a' => ownFrom_pure _ _) ?assign ?body ?done ?stop
  case assign =>
    rintro l pre x W K hI hK
    dsimp only [encS]
    simp only [Nat.zero_add]
    gi_wp2
    exact hK _ _ (KeepsFrom.refl _ _) rfl hI rfl
  case body =>
    rintro l pre x a' W hlw ⟨r, hr1⟩ ⟨⟨⟨q1, o', q2, q3⟩, q5⟩, hB⟩ rfl hlt2
    have hx8 := x.isLt
    have hd1 := unhideTo_length xs H HL.out pre
    have hd2 := unhideTo_two xs H pre
    obtain ⟨k, hk⟩ : ∃ k, pre.length = k := ⟨_, rfl⟩
    rw [hk] at q2 q3 hlt2 hd2
    obtain rfl := q3 hlt2
    obtain ⟨d, hd⟩ : ∃ d, (unhideTo xs H pre).1 = d := ⟨_, rfl⟩
    rw [hd] at q1 hd1
    have hsnoc : Hid ((unhideTo xs H (pre ++ [x])).1 = over d (x.val * 512) ((H.drop (k * 8)).take 8)) := by
      show _ = _
      rw [unhideTo_snoc]
      unfold unhideStep
      rw [hd, hd2]
    have hlen : Hid ((pre ++ [x]).length = k + 1) := by show _ = _; simp [hk]
    clear q3 hk hd hd2
    have h8 : ((H.drop (k * 8)).take 8).length = 8 := by have := HHL.out; simp; omega
    have hr8 : Rd W (some ⟨gm, om + k * 8, none⟩) ((H.drop (k * 8)).take 8) := (hH.below hB (Nat.le_refl _)).part (k * 8) 8
    obtain ⟨W5, hrun, hrow5, hg5⟩ := copy_row h c (x.val * 512) 512 512 (some ⟨gm, om + k * 8, none⟩) (cm - k * 8) _ d W q1 hr8 (by omega) (by omega) (by omega)
    rw [h8] at hrun
    have hB5 := hB.grown hg5 hB.size (fun k e => by cases e; have := Hh.out; omega)
    have q25 : Box W5 w.heap.size _ 37 := q2.grown hg5 (fun e => by cases e; have := Hh.out; omega)
    have d3 := q2.cell 0
    have d5 := q25.cell 0
    have f5 := q25.frozen 0
    have keep5 : KeepsOthers W W5 := by obtain ⟨cur, hc, _⟩ := q1; exact keeps_grown hc hg5
    have bk1 : W5.heap[k1]? = W.heap[k1]? := hg5.block k1 (by omega) (fun e => by cases e; omega)
    have hs5 := hg5.size
    have m1 : 8 ≤ 64 - k * 8 := by omega
    have m2 : 8 ≤ cm - k * 8 := by omega
    have e1 : 64 - (k + 1) * 8 = 64 - k * 8 - 8 := by omega
    have e2 : cm - (k + 1) * 8 = cm - k * 8 - 8 := by omega
    have e3 : 64 - k * 8 ≤ cm - k * 8 := by omega
    have m4 : cm - k * 8 ≤ 9223372036854775807 := by omega
    obtain ⟨L, hL⟩ : ∃ L, L = 64 - k * 8 := ⟨_, rfl⟩
    obtain ⟨C, hC⟩ : ∃ C, C = cm - k * 8 := ⟨_, rfl⟩
    rw [← hL] at d3 d5 q2 q25 m1 e1 e3
    rw [← hC] at d3 d5 q2 q25 m2 e2 e3 m4 hrun
    have e6 : (k + 1 < 8 → C ≠ 8) := by omega
    have HE : Hid (64 - (k + 1) * 8 = L - 8 ∧ cm - (k + 1) * 8 = C - 8 ∧ (k + 1 < 8 → C ≠ 8)) := ⟨e1, e2, e6⟩
    clear hL hC e1 e2 e6
    by_cases hC8 : C = 8
    · subst hC8
      gi_wp2
      refine ⟨(keep5.trans (KeepsOthers.setCell _ _ _)).from _, ?_, ⟨⟨?_, om + k * 8, ?_, ?_⟩, ?_⟩, hB5.setCell (p := ⟨w.heap.size, 0, none⟩) (by simp) _⟩
      · exact (World.cell?_of_block (a := ⟨k1, 0, none⟩) (heap_setCell_other W5 ⟨w.heap.size, 0, none⟩ k1 _ (by show k1 ≠ w.heap.size; have := Hh.out; omega))).trans (World.cell?_of_block (a := ⟨k1, 0, none⟩) bk1)
      · rw [hsnoc.out]; exact rowB_store (j := 0) hrow5 q25 (by decide) _
      · obtain ⟨a1, a2, a3⟩ := HE.out
        rw [hlen.out, a1, a2]
        have hL8 : L - 8 = 0 := by omega
        rw [hL8]
        have := q25.store 0 (.slice (some ⟨gm, om + k * 8, none⟩) 0 0)
        simpa using this
      · rw [hlen.out]
        intro hk8
        exact absurd rfl (HE.out.2.2 hk8)
      · simp; omega
    · have hC9 : ¬ C = 8 := hC8
      have hC7 : 8 < C := by omega
      gi_wp2
      refine ⟨(keep5.trans (KeepsOthers.setCell _ _ _)).from _, ?_, ⟨⟨?_, om + k * 8 + 8, ?_, ?_⟩, ?_⟩, hB5.setCell (p := ⟨w.heap.size, 0, none⟩) (by simp) _⟩
      · exact (World.cell?_of_block (a := ⟨k1, 0, none⟩) (heap_setCell_other W5 ⟨w.heap.size, 0, none⟩ k1 _ (by show k1 ≠ w.heap.size; have := Hh.out; omega))).trans (World.cell?_of_block (a := ⟨k1, 0, none⟩) bk1)
      · rw [hsnoc.out]; exact rowB_store (j := 0) hrow5 q25 (by decide) _
      · obtain ⟨a1, a2, a3⟩ := HE.out
        rw [hlen.out, a1, a2]
        have := q25.store 0 (.slice (some ⟨gm, om + k * 8 + 8, none⟩) (L - 8) (C - 8))
        simpa using this
      · rw [hlen.out]
        intro hk8
        omega
      · simp; omega
  case done =>
    rintro D' ys W hD rfl ⟨⟨⟨q1, o', q2, q3⟩, q5⟩, hB⟩ hK
    gi_wp2
    refine ⟨by simp, .inl ⟨_, _, rfl, run_takeDeferred hK, ?_⟩⟩
    exact ⟨_, by simp [results, Tryz.f292, go_sem], h, c, rfl, by have := Hh.out; omega, q1.kept (grownBy_putObj' _ D' (.deferred none)) (fun r e => by cases e; exact ⟨_, hK, rfl⟩), hB.trans (belowK_b (w := w) (Nat.le_refl _) _ D' _ _ (by omega) hK rfl rfl)⟩
  case stop =>
    rintro D' c pre W hD _ ⟨hf, _⟩ hK
    exact hf.elim
end Go.Proofs.YtnldkpckojhbhaaGreat.Rc

/-
  Head, Get.
-/
namespace Go.Proofs.YtnldkpckojhbhaaGreat.Rc
open Go.RowKit

theorem getHeading_at (a : Option Addr) (n cap : Nat) (xs : List UInt8) (w : World) (hl : xs.length = n) (hcap : n ≤ cap) (hmax : cap ≤ 9223372036854775807) (hr : Rd w a xs) :
    Calls Tryz.prog 290 #[.slice a n cap] w (GetH w xs) := by
  by_cases h : n = 4096
  · subst h
    obtain ⟨g, o, rfl, _⟩ := hr (by omega)
    exact getHeading_in g o cap xs w hl hcap hmax hr
  · exact getHeading_short a n cap xs w hl h

def LstAt (w : World) (b o : Nat) (xs : List UInt8) : Prop := ∃ x c, w.cell? ⟨b, o, none⟩ = some (.slice x xs.length c) ∧ xs.length ≤ c ∧ c ≤ 9223372036854775807 ∧ (x = none → c = 0) ∧ Rd w x xs
def Lsts (w : World) (a : Option Addr) (ls : List (List UInt8)) : Prop :=
  0 < ls.length → ∃ b o, a = some ⟨b, o, none⟩ ∧ ∀ j (h : j < ls.length), LstAt w b (o + j) ls[j]
theorem LstAt.below {w w' : World} {b o : Nat} {xs : List UInt8} (h : LstAt w b o xs) (hb : Below w.heap.size w w') : LstAt w' b o xs := by
  obtain ⟨x, c, h2, h3, h4, h5, h6⟩ := h
  have hlt : b < w.heap.size := block_lt_of_cell h2
  exact ⟨x, c, (hb.cell (p := ⟨b, o, none⟩) hlt).trans h2, h3, h4, h5, h6.below hb (Nat.le_refl _)⟩
theorem Lsts.below {w w' : World} {a : Option Addr} {ls : List (List UInt8)} (h : Lsts w a ls) (hb : Below w.heap.size w w') : Lsts w' a ls := fun hp => by
  obtain ⟨b, o, ha, hc⟩ := h hp
  exact ⟨b, o, ha, fun j hj => (hc j hj).below hb⟩

structure GG where
  b : Int
  xs : List UInt8
  h : Nat
  c : Nat
def imgC (ps : List GG) : List Value := ps.flatMap fun p => [.int .i64 p.b, .slice (some ⟨p.h, 0, none⟩) 4096 p.c]
theorem imgC_at (ps : List GG) (i : Nat) (h : i < ps.length) : (imgC ps)[i * 2]? = some (.int .i64 ps[i].b) ∧ (imgC ps)[i * 2 + 1]? = some (.slice (some ⟨ps[i].h, 0, none⟩) 4096 ps[i].c) := by
  induction ps generalizing i with
  | nil => simp at h
  | cons p ps ih =>
    cases i with
    | zero => exact ⟨rfl, rfl⟩
    | succ i =>
      obtain ⟨u, v⟩ := ih i (by simpa using h)
      have e1 : (i + 1) * 2 = i * 2 + 1 + 1 := by omega
      simp only [imgC, List.flatMap_cons, e1, List.cons_append, List.nil_append, List.getElem?_cons_succ, List.getElem_cons_succ]
      exact ⟨u, v⟩
structure GetJ (B : Nat) (W : World) (ps : List GG) : Prop where
  rows : ∀ p ∈ ps, RowB W p.h p.c p.xs ∧ B ≤ p.h ∧ p.xs.length = 4096
  apart : (ps.map GG.h).Nodup
theorem GetJ.mono {B : Nat} {W W' : World} {ps : List GG} (h : GetJ B W ps) (hk : ∀ g cur, Box W g cur 5 → W'.heap[g]? = W.heap[g]?) : GetJ B W' ps :=
  ⟨fun p hp => by
    obtain ⟨a1, a2⟩ := h.rows p hp
    refine ⟨a1.same ?_, a2⟩
    obtain ⟨cur, q, _⟩ := a1; exact hk _ _ q, h.apart⟩
theorem GetJ.below {B : Nat} {W W' : World} {ps : List GG} (h : GetJ B W ps) (hb : Below W.heap.size W W') : GetJ B W' ps := h.mono fun g _ q => hb.block g q.lt
theorem GetJ.grown {B base e size n : Nat} {W W' : World} {ps : List GG} {v : Value} {xs : List Value} (h : GetJ B W ps) (ho : W.ownsRow base e size v n xs) (he : (5 : TypeId) ≠ e) (hg : W.grownBy W' v.ownBlock) : GetJ B W' ps := h.mono fun g cur q => hg.block g q.lt (fun eq => by
  obtain ⟨_, c2, q2⟩ := owns_block ho g eq.symm
  exact q.ne q2 he rfl)
theorem GetJ.store {B b j : Nat} {W : World} {ps : List GG} {cs : Array Value} {t : TypeId} (h : GetJ B W ps) (hb : Box W b cs t) (ht : (5 : TypeId) ≠ t) (u : Value) : GetJ B (W.setCell ⟨b, j, none⟩ u) ps := h.mono fun g _ q => heap_setCell_other W ⟨b, j, none⟩ g u (q.ne hb ht)
theorem GetJ.snoc {B : Nat} {W W' : World} {ps : List GG} (h : GetJ B W ps) (hb : Below W.heap.size W W') (p : GG) (h1 : RowB W' p.h p.c p.xs) (h3 : W.heap.size ≤ p.h) (h4 : p.xs.length = 4096) (hB : B ≤ W.heap.size) : GetJ B W' (ps ++ [p]) :=
  ⟨fun x hx => by
    rcases List.mem_append.1 hx with hx | hx
    · exact (h.below hb).rows x hx
    · simp at hx
      subst hx
      exact ⟨h1, by omega, h4⟩, by
    rw [List.map_append, List.nodup_append]
    refine ⟨h.apart, by simp, fun x hx y hy => ?_⟩
    obtain ⟨z, hz, rfl⟩ := List.mem_map.1 hx
    simp at hy
    subst hy
    have := (h.rows z hz).1.lt
    omega⟩

def imgOf (ls : List (List UInt8)) (es : List (Nat × List UInt8)) (j : Nat) : Int × List UInt8 := (((es[j]?.getD (0, [])).1 : Int), (unhideTo (ls[j + 1]?.getD []) (es[j]?.getD (0, [])).2 (List.finRange 8)).1)
def imgsTo (ls : List (List UInt8)) (es : List (Nat × List UInt8)) (k : Nat) : List (Int × List UInt8) := (List.range k).map (imgOf ls es)
theorem imgsTo_succ (ls : List (List UInt8)) (es : List (Nat × List UInt8)) (k : Nat) : imgsTo ls es (k + 1) = imgsTo ls es k ++ [imgOf ls es k] := by simp [imgsTo, List.range_succ]
def stampedTo (ls : List (List UInt8)) (e s : Int) (k : Nat) : Prop := ∀ j, j < k → stampedB (ls[j + 1]?.getD []) e s = true
def isGrp (ls : List (List UInt8)) : Prop := 0 < ls.length ∧ isHead (ls[0]?.getD []) ∧ ls.length = (saidEs (ls[0]?.getD [])).length + 1 ∧ stampedTo ls (saidE (ls[0]?.getD [])) (saidS (ls[0]?.getD [])) (saidEs (ls[0]?.getD [])).length

theorem info38 : (Tryz.prog.info? 89).map (fun i => (i.zero, i.size, i.bytes)) = some (some (.agg #[.int .i64 0, .slice none 0 0]), 2, 32) := by kernel_rfl

def GetR (w : World) (ls : List (List UInt8)) (r : Ending) (w' : World) : Prop :=
  (isGrp ls ∧ ∃ a c ps, r = .returned (.tuple #[.agg #[.int .i64 (saidE (ls[0]?.getD []) : Int), .int .i64 (saidS (ls[0]?.getD []) : Int), .slice a (saidEs (ls[0]?.getD [])).length c], .int .i64 0]) ∧ w'.ownsRow w.heap.size 89 2 (.slice a (saidEs (ls[0]?.getD [])).length c) (saidEs (ls[0]?.getD [])).length (imgC ps) ∧
    GetJ w.heap.size w' ps ∧ ps.map (fun p => (p.b, p.xs)) = imgsTo ls (saidEs (ls[0]?.getD [])) (saidEs (ls[0]?.getD [])).length ∧ Below w.heap.size w w') ∨
  (¬ isGrp ls ∧ r = .returned (.tuple #[.agg #[.int .i64 0, .int .i64 0, .slice none 0 0], .int .i64 80]) ∧ Below w.heap.size w w')

theorem zero_below {w W : World} (B : Below w.heap.size w W) : Below w.heap.size w (((W.setCell ⟨w.heap.size, 0, none⟩ (.int .i64 0)).setCell ⟨w.heap.size, 1, none⟩ (.int .i64 0)).setCell ⟨w.heap.size, 2, none⟩ (.slice none 0 0)) :=
  ((B.setCell (p := ⟨w.heap.size, 0, none⟩) (by simp) _).setCell (p := ⟨w.heap.size, 1, none⟩) (by simp) _).setCell (p := ⟨w.heap.size, 2, none⟩) (by simp) _

theorem zero_box {w W : World} (b : Box W w.heap.size #[.int .i64 0, .int .i64 0, .slice none 0 0] 203) : Box (((W.setCell ⟨w.heap.size, 0, none⟩ (.int .i64 0)).setCell ⟨w.heap.size, 1, none⟩ (.int .i64 0)).setCell ⟨w.heap.size, 2, none⟩ (.slice none 0 0)) w.heap.size #[.int .i64 0, .int .i64 0, .slice none 0 0] 203 := by
  have := ((b.store 0 (.int .i64 0)).store 1 (.int .i64 0)).store 2 (.slice none 0 0)
  simpa using this

set_option maxRecDepth 100000 in
set_option maxHeartbeats 4000000 in
theorem get_in (a : Option Addr) (n cap : Nat) (ls : List (List UInt8)) (w : World) (hl : ls.length = n) (h0 : 0 < n) (hn : n ≤ 1000000000) (hL : Lsts w a ls) : Calls Tryz.prog 273 #[.slice a n cap] w (GetR w ls) := by
  obtain ⟨i0, hi, hz0, hz1, hz2⟩ := info_parts info38
  obtain ⟨b, o, rfl, hc⟩ := hL (by omega)
  have HC : Hid (∀ j (h : j < ls.length), LstAt w b (o + j) ls[j]) := hc
  obtain ⟨xs, hxs⟩ : ∃ xs, xs = ls[0]?.getD [] := ⟨_, rfl⟩
  have hx0 : ls[0]'(by omega) = xs := by rw [hxs, List.getElem?_eq_getElem (by omega)]; rfl
  obtain ⟨x0, c0, q1, q2, q3, q4, q5⟩ := hc 0 (by omega)
  rw [hx0] at q1 q2 q5
  rw [Nat.add_zero] at q1
  have hblt : b < w.heap.size := block_lt_of_cell q1
  have HG : Hid (isGrp ls ↔ isHead xs ∧ n = (saidEs xs).length + 1 ∧ stampedTo ls (saidE xs) (saidS xs) (saidEs xs).length) := by
    show _ ↔ _
    unfold isGrp
    rw [← hxs, hl]
    exact ⟨fun h => h.2, fun h => ⟨h0, h⟩⟩
  unfold GetR
  rw [← hxs]
  have HL : Hid _ := hl
  have HX : Hid _ := hxs
  generalize isGrp ls = IG at HG ⊢
  clear hc hx0 hl hxs hL
  have b0 := Box.new w #[.int .i64 0, .int .i64 0, .slice none 0 0] 203
  have B0 := (Below.refl w.heap.size w).alloc (Nat.le_refl _) (.cells #[.int .i64 0, .int .i64 0, .slice none 0 0] 203)
  have q1' := (B0.cell (p := ⟨b, o, none⟩) hblt).trans q1
  have cH := getHeading_at x0 xs.length c0 xs _ rfl q2 q3 (q5.below B0 (Nat.le_refl _))
  have hni : ((n : Int) == 0) = false := by simp; omega
  have hnp : (0 : Int) < n := by omega
  go_enter Tryz.func273, Tryz.ntmps273
  go_wp2_with fail
  refine cH.mono ?_
  rintro r w1 (⟨hhd, ah, ch, rfl, hEn, hb1⟩ | ⟨hhd, rfl, hb1⟩)
  · replace b0 := b0.below hb1
    have B1 := B0.trans (hb1.mono B0.size)
    have hcnt : 1 ≤ (saidEs xs).length ∧ (saidEs xs).length ≤ 32 := by have := hhd.2.1.2.1; rw [List.length_map] at this; exact this
    have hE64 : ∀ x ∈ saidEs xs, x.2.length = 64 := fun x hx => by
      obtain ⟨j, hj, rfl⟩ := List.getElem_of_mem hx
      obtain ⟨b, o, _, hc⟩ := hEn (by omega)
      obtain ⟨_, _, _, _, _, _, _, q, _⟩ := hc j hj
      exact q
    have HG2 : Hid (IG ↔ n = (saidEs xs).length + 1 ∧ stampedTo ls (saidE xs) (saidS xs) (saidEs xs).length) := ⟨fun h => (HG.out.1 h).2, fun h => HG.out.2 ⟨hhd, h⟩⟩
    clear hhd hb1 cH q1' HG
    obtain ⟨E, hEE⟩ : ∃ E, E = saidE xs := ⟨_, rfl⟩
    obtain ⟨S, hSS⟩ : ∃ S, S = saidS xs := ⟨_, rfl⟩
    obtain ⟨es, hes⟩ : ∃ es, es = saidEs xs := ⟨_, rfl⟩
    rw [← hEE, ← hSS, ← hes] at HG2
    rw [← hes] at hEn hcnt hE64
    rw [← hEE, ← hSS, ← hes]
    have HEE : Hid _ := hEE
    have HSS : Hid _ := hSS
    have HES : Hid _ := hes
    clear hEE hSS hes
    obtain ⟨m, hm⟩ : ∃ m, m = es.length := ⟨_, rfl⟩
    rw [← hm] at hcnt HG2 ⊢
    have HM : Hid _ := hm
    clear hm
    obtain ⟨hc1, hc2⟩ := hcnt
    have hbn : blocksN (m : Int) = (m : Int) + 1 := by unfold blocksN; rw [if_pos (by omega)]
    have al := (Below.refl w1.heap.size w1).alloc (Nat.le_refl _) (.cells #[.int .i64 (E : Int), .int .i64 (S : Int), .slice ah m ch] 250)
    have bh := Box.new w1 #[.int .i64 (E : Int), .int .i64 (S : Int), .slice ah m ch] 250
    have hlt1 := b0.lt
    have BOXW : Hid (∀ u, Below w1.heap.size w1 u → Box u w.heap.size #[.int .i64 0, .int .i64 0, .slice none 0 0] 203) := fun u hb => b0.below hb
    obtain ⟨w2, hw2⟩ : ∃ x, x = w1.alloc (.cells #[.int .i64 (E : Int), .int .i64 (S : Int), .slice ah m ch] 250) := ⟨_, rfl⟩
    have hs2 : w1.heap.size < w2.heap.size := by rw [hw2]; simp
    have HW2 : Hid _ := hw2
    rw [← hw2] at al bh
    obtain ⟨hb, hhb⟩ : ∃ x, x = w1.heap.size := ⟨_, rfl⟩
    have HHB : Hid _ := hhb
    rw [← hhb] at bh
    have hbge : w1.heap.size ≤ hb := Nat.le_of_eq hhb.symm
    have hbl2 : hb < w2.heap.size := by rw [hhb]; exact hs2
    have d2 : (w1.alloc (.cells #[.int .i64 (E : Int), .int .i64 (S : Int), .slice ah m ch] 250)).cell? ⟨w1.heap.size, 2, none⟩ = some (.slice ah m ch) := by rw [← hw2, ← hhb]; exact bh.cell 2
    clear hw2 hhb
    go_wp2_with fail
    rw [← HW2.out, ← HHB.out]
    clear d2
    refine (blocks_at (m : Int) w2).mono ?_
    rintro r w' ⟨rfl, rfl⟩
    rw [hbn]
    have b02 := b0.below al
    have B2 := B1.trans (al.mono B1.size)
    by_cases hnm : n = m + 1
    · have hq : ((n : Int) != (m : Int) + 1) = false := by simp; omega
      have hg3 : Hid (IG ↔ stampedTo ls E S m) := ⟨fun h => (HG2.out.1 h).2, fun h => HG2.out.2 ⟨hnm, h⟩⟩
      clear HG2
      have d0 := bh.cell 0
      have d1 := bh.cell 1
      have d2 := bh.cell 2
      have al3 := (Below.refl w2.heap.size w2).alloc (Nat.le_refl _) (.cells #[.int .i64 (E : Int), .int .i64 (S : Int), .slice none 0 0] 203)
      have bg := Box.new w2 #[.int .i64 (E : Int), .int .i64 (S : Int), .slice none 0 0] 203
      obtain ⟨w3, hw3⟩ : ∃ x, x = w2.alloc (.cells #[.int .i64 (E : Int), .int .i64 (S : Int), .slice none 0 0] 203) := ⟨_, rfl⟩
      have HW3 : Hid _ := hw3
      obtain ⟨gb, hgb⟩ : ∃ x, x = w2.heap.size := ⟨_, rfl⟩
      have HGB : Hid _ := hgb
      have x3 : (w2.alloc (.cells #[.int .i64 (E : Int), .int .i64 (S : Int), .slice none 0 0] 203)).cell? ⟨hb, 2, none⟩ = some (.slice ah m ch) := (bh.below al3).cell 2
      rw [← hw3] at al3 bg
      rw [← hgb] at bg
      have hgb1 : w1.heap.size < gb := by rw [hgb]; exact hs2
      have hgb2 : hb < gb := by rw [hgb]; exact hbl2
      have bh3 := bh.below al3
      have b03 := b02.below al3
      have al13 := al.trans (al3.mono al.size)
      have B3 := B2.trans (al3.mono B2.size)
      clear hw3 hgb bh b02
      go_wp2_with fail
      rw [← HW3.out, ← HGB.out]
      clear d0 d1 d2 x3
      go_loopw [41] (fun i wr => ∃ (k : Nat) (ps : List GG), k ≤ m ∧ i = .int .i64 k ∧ ps.map (fun p => (p.b, p.xs)) = imgsTo ls es k ∧ stampedTo ls E S k ∧ (∃ v, Box wr gb #[.int .i64 (E : Int), .int .i64 (S : Int), v] 203 ∧ wr.ownsRow w1.heap.size 89 2 v k (imgC ps)) ∧ GetJ w.heap.size wr ps ∧ Box wr hb #[.int .i64 (E : Int), .int .i64 (S : Int), .slice ah m ch] 250 ∧ Below w1.heap.size w1 wr) (fun i _ => m - (intOf i).toNat)
      case atStart => exact ⟨0, [], Nat.zero_le _, rfl, rfl, fun j h => absurd h (by omega), ⟨_, bg, World.ownsRow_nil _ _ _ _⟩, ⟨fun p hp => by simp at hp, by simp⟩, bh3, al13⟩
      case round =>
        obtain ⟨k, ps, hk, rfl, hps, hst, ⟨v, bG, hown⟩, hJ, bH, hB1⟩ := hrel
        clear bg bh3 b03 B3 al13 al3 al
        have hB := B1.trans (hB1.mono B1.size)
        have HPS : Hid _ := hps
        have HST : Hid _ := hst
        clear hps hst
        by_cases hlt : k < m
        · have hlt2 : (k : Int) < m := by omega
          have hke : k < es.length := by rw [← HM.out]; exact hlt
          have hkn : k + 1 < ls.length := by rw [HL.out]; omega
          have hkn2 : (k : Int) + 1 < n := by omega
          obtain ⟨ba, oa, rfl, hca⟩ := hEn (by omega)
          obtain ⟨p1, gq, oq, cq, p2, p3, p4, p5, p6⟩ := (hca k hke).below hB1
          obtain ⟨xk, ck, t1, t2, t3, t4, t5⟩ := (HC.out (k + 1) hkn).below hB
          have hio : imgOf ls es k = ((es[k].1 : Int), (unhideTo ls[k + 1] es[k].2 (List.finRange 8)).1) := by
            unfold imgOf
            rw [List.getElem?_eq_getElem hke, List.getElem?_eq_getElem hkn]
            rfl
          have hsk : ls[k + 1]?.getD [] = ls[k + 1] := by rw [List.getElem?_eq_getElem hkn]; rfl
          generalize es[k] = en at p1 p2 p5 p6 hio
          generalize ls[k + 1] = ys at t1 t2 t5 hio hsk
          obtain ⟨eb, eh⟩ := en
          dsimp only at p1 p2 p5 p6 hio
          have HIO : Hid _ := hio
          have HSK : Hid _ := hsk
          clear hio hsk hca
          have al := (Below.refl wr.heap.size wr).alloc (Nat.le_refl _) (.cells #[.int .i64 (eb : Int), .slice (some ⟨gq, oq, none⟩) 64 cq] 254)
          have be := Box.new wr #[.int .i64 (eb : Int), .slice (some ⟨gq, oq, none⟩) 64 cq] 254
          have bG1 := bG.below al
          have bH1 := bH.below al
          have own1 := owns_belowH hown al
          have J1 := hJ.below al
          have A1 := hB1.trans (al.mono hB1.size)
          have B1' := hB.trans (al.mono hB.size)
          have t1' := (al.cell (p := ⟨b, o + (k + 1), none⟩) (block_lt_of_cell t1)).trans t1
          have t5' := t5.below al (Nat.le_refl _)
          have p6' := p6.below al (Nat.le_refl _)
          obtain ⟨av, cv, rfl⟩ := owns_shape hown
          obtain ⟨V, hV⟩ : ∃ V, V = wr.alloc (.cells #[.int .i64 (eb : Int), .slice (some ⟨gq, oq, none⟩) 64 cq] 254) := ⟨_, rfl⟩
          have hsz : wr.heap.size < V.heap.size := by rw [hV]; simp
          have HV : Hid _ := hV
          have u0 : (wr.alloc (.cells #[.int .i64 (eb : Int), .slice (some ⟨gq, oq, none⟩) 64 cq] 254)).cell? ⟨hb, 0, none⟩ = some (.int .i64 (E : Int)) := bH1.cell 0
          have u1 : (wr.alloc (.cells #[.int .i64 (eb : Int), .slice (some ⟨gq, oq, none⟩) 64 cq] 254)).cell? ⟨hb, 1, none⟩ = some (.int .i64 (S : Int)) := bH1.cell 1
          rw [← hV] at be bG1 bH1 own1 J1 A1 B1' t5' p6'
          obtain ⟨bi, hbi⟩ : ∃ x, x = wr.heap.size := ⟨_, rfl⟩
          have HBI : Hid _ := hbi
          rw [← hbi] at be hsz
          clear hV al bG bH hown hJ hB1 hB t5 p6 hbi
          have cS := stamped_at xk ys.length ck ys (E : Int) (S : Int) V rfl t2 t3 t5'
          go_wp2_with fail
          rw [← HV.out, ← HBI.out]
          refine cS.mono ?_
          rintro r V2 ⟨rfl, hbV⟩
          clear cS t1' t1 u0 u1 p1 p2
          replace be := be.below hbV
          replace bG1 := bG1.below hbV
          replace bH1 := bH1.below hbV
          replace own1 := owns_belowH own1 hbV
          replace J1 := J1.below hbV
          replace A1 := A1.trans (hbV.mono A1.size)
          replace B1' := B1'.trans (hbV.mono B1'.size)
          replace p6' := p6'.below hbV (Nat.le_refl _)
          replace t5' := t5'.below hbV (Nat.le_refl _)
          replace hsz : bi < V2.heap.size := Nat.lt_of_lt_of_le hsz hbV.size
          clear hbV
          cases hsb : stampedB ys (E : Int) (S : Int) with
          | false =>
            have hno : Hid (¬ IG) := fun h => by
              have := hg3.out.1 h k hlt
              rw [HSK.out, hsb] at this
              cases this
            have b0V := (BOXW.out _ A1)
            have y0 := b0V.cell 0
            have y1 := b0V.cell 1
            have y2 := b0V.cell 2
            have f0 := b0V.frozen 0
            have f1 := b0V.frozen 1
            have f2 := b0V.frozen 2
            have zb := zero_box b0V
            have m0 := zb.cell 0
            have m1 := zb.cell 1
            have m2 := zb.cell 2
            go_wp2
            refine bodyPost_ret (v := .tuple #[.agg #[.int .i64 0, .int .i64 0, .slice none 0 0], .int .i64 80]) (by simp [results, Tryz.results273, go_sem, m0, m1, m2]) rfl ?_
            exact .inr ⟨hno.out, rfl, zero_below B1'⟩
          | true =>
            have hy4 : ys.length = 4096 := by
              unfold stampedB at hsb
              simp at hsb
              exact hsb.1
            rw [hy4] at t2 ⊢
            obtain ⟨gy, oy, rfl, _⟩ := t5' (by omega)
            go_wp2_with fail
            have hyl : ys.length = 4096 := hy4
            have HY4 : Hid _ := hy4
            clear hy4 hyl
            refine wp_region_any (by kernel_rfl) ?_
            change wpAny _ _ _ _ _ _ _ (World.drew _)
            replace be : Box V2.drew bi _ 254 := be
            replace bG1 : Box V2.drew gb _ 203 := bG1
            replace bH1 : Box V2.drew hb _ 250 := bH1
            replace own1 : V2.drew.ownsRow w1.heap.size 89 2 (.slice av k cv) k (imgC ps) := own1
            replace J1 : GetJ w.heap.size V2.drew ps := J1.below (Below.refl _ _).drew
            replace A1 : Below w1.heap.size w1 V2.drew := A1.drew
            replace B1' : Below w.heap.size w V2.drew := B1'.drew
            replace p6' : Rd V2.drew (some ⟨gq, oq, none⟩) eh := p6'
            replace t5' : Rd V2.drew (some ⟨gy, oy, none⟩) ys := t5'
            generalize V2.drew = W at be bG1 bH1 own1 J1 A1 B1' p6' t5' ⊢
            refine wpAny_take (i := 0) (v := ?_) rfl (by kernel_rfl) (by kernel_rfl) (by kernel_rfl) (fun _ _ _ h => h) (Or.inl ⟨by rfl, ?_⟩) ?_
            rotate_left
            · intro w
              go_simp
              with_reducible rfl
            refine wpAny_take (i := 2) (v := ?_) rfl (by kernel_rfl) (by kernel_rfl) (by kernel_rfl) (fun _ _ _ h => h) (Or.inl ⟨by rfl, ?_⟩) ?_
            rotate_left
            · intro w
              go_simp
              with_reducible rfl
            refine wpAny_take (i := 4) (v := ?_) rfl (by kernel_rfl) (by kernel_rfl) (by kernel_rfl) (fun _ _ _ h => h) (Or.inl ⟨by rfl, ?_⟩) ?_
            rotate_left
            · intro w
              go_simp
              with_reducible rfl
            refine wpAny_take (i := 5) (v := ?_) rfl (by kernel_rfl) (by kernel_rfl) (by kernel_rfl) (fun _ _ _ h => h) (Or.inl ⟨by rfl, ?_⟩) ?_
            rotate_left
            · intro w
              go_simp
              with_reducible rfl
            simp only [Act.put, List.setIfInBounds_toArray, List.set_cons_zero, List.set_cons_succ, List.getElem_toArray, List.getElem_cons_zero, List.getElem_cons_succ]
            refine wpAny_of_late (C := SB [(59, .pointer (some ⟨gb, 2, none⟩)), (61, .pointer (some ⟨bi, 0, none⟩)), (64, .pointer (some ⟨bi, 1, none⟩))] [(gb, #[.int .i64 (E : Int), .int .i64 (S : Int), .slice av k cv], 203), (bi, #[.int .i64 (eb : Int), .slice (some ⟨gq, oq, none⟩) 64 cq], 254)]) (late := [12]) _ _ _ _ ?_
            refine wpAnyD_take (i := 1) (v := .slice av k cv) rfl (by kernel_rfl) (by kernel_rfl) (by kernel_rfl) (by kernel_rfl) (fun _ _ _ h => h) ?_ (fun fr u h => (SB.put 60 _ (by rfl)).1 h) (fun fr u h => (SB.put 60 _ (by rfl)).2 h) ?_ ?_
            · intro fr u hh
              obtain ⟨e1, e2⟩ := hh.load (s := 59) (b := gb) (j := 2) (cs := #[.int .i64 (E : Int), .int .i64 (S : Int), .slice av k cv]) (t := 203) (v := .slice av k cv) (by simp) (by simp) (by rfl)
              exact ⟨rfl, by simp [execOp, e1, go_sem, e2]⟩
            · exact ⟨fun p hp => by simp at hp; rcases hp with rfl | rfl | rfl <;> rfl, fun q hq => by simp at hq; rcases hq with rfl | rfl <;> first | exact bG1 | exact be⟩
            simp only [Act.put, List.setIfInBounds_toArray, List.set_cons_zero, List.set_cons_succ, List.getElem_toArray, List.getElem_cons_zero, List.getElem_cons_succ]
            refine wpAnyD_take (i := 3) (v := .int .i64 (eb : Int)) rfl (by kernel_rfl) (by kernel_rfl) (by kernel_rfl) (by kernel_rfl) (fun _ _ _ h => h) ?_ (fun fr u h => (SB.put 62 _ (by rfl)).1 h) (fun fr u h => (SB.put 62 _ (by rfl)).2 h) ?_ ?_
            · intro fr u hh
              obtain ⟨e1, e2⟩ := hh.load (s := 61) (b := bi) (j := 0) (cs := #[.int .i64 (eb : Int), .slice (some ⟨gq, oq, none⟩) 64 cq]) (t := 254) (v := .int .i64 (eb : Int)) (by simp) (by simp) (by rfl)
              exact ⟨rfl, by simp [execOp, e1, go_sem, e2]⟩
            · exact ⟨fun p hp => by simp at hp; rcases hp with rfl | rfl | rfl <;> rfl, fun q hq => by simp at hq; rcases hq with rfl | rfl <;> first | exact bG1 | exact be⟩
            simp only [Act.put, List.setIfInBounds_toArray, List.set_cons_zero, List.set_cons_succ, List.getElem_toArray, List.getElem_cons_zero, List.getElem_cons_succ]
            refine wpAnyD_take (i := 6) (v := .slice (some ⟨gq, oq, none⟩) 64 cq) rfl (by kernel_rfl) (by kernel_rfl) (by kernel_rfl) (by kernel_rfl) (fun _ _ _ h => h) ?_ (fun fr u h => (SB.put 65 _ (by rfl)).1 h) (fun fr u h => (SB.put 65 _ (by rfl)).2 h) ?_ ?_
            · intro fr u hh
              obtain ⟨e1, e2⟩ := hh.load (s := 64) (b := bi) (j := 1) (cs := #[.int .i64 (eb : Int), .slice (some ⟨gq, oq, none⟩) 64 cq]) (t := 254) (v := .slice (some ⟨gq, oq, none⟩) 64 cq) (by simp) (by simp) (by rfl)
              exact ⟨rfl, by simp [execOp, e1, go_sem, e2]⟩
            · exact ⟨fun p hp => by simp at hp; rcases hp with rfl | rfl | rfl <;> rfl, fun q hq => by simp at hq; rcases hq with rfl | rfl <;> first | exact bG1 | exact be⟩
            simp only [Act.put, List.setIfInBounds_toArray, List.set_cons_zero, List.set_cons_succ, List.getElem_toArray, List.getElem_cons_zero, List.getElem_cons_succ]
            refine wpAnyD_one (i := 7) (by kernel_rfl) rfl (fun K hK2 => ?_)
            go_simp
            refine (unhide_in gy oy ck gq oq cq ys eh W HY4.out t5' p5 p3 p4 p6').mono ?_
            rintro r W2 ⟨h, c, rfl, hh, r1, hbW⟩
            have J2 := J1.snoc hbW ⟨(eb : Int), _, h, c⟩ r1 hh (unhideTo_length ys eh HY4.out _) B1'.size
            replace be := be.below hbW
            replace bG1 := bG1.below hbW
            replace bH1 := bH1.below hbW
            replace own1 := owns_belowH own1 hbW
            replace A1 := A1.trans (hbW.mono A1.size)
            replace B1' := B1'.trans (hbW.mono B1'.size)
            refine hK2 _ _ ⟨.inr ⟨fun p hp => by simp at hp; rcases hp with rfl | rfl | rfl <;> rfl, fun q hq => by simp at hq; rcases hq with rfl | rfl <;> first | exact bG1 | exact be⟩, ?_⟩
            clear hK2 K hbW r1 hh J1 p6' t5'
            refine wpAnyD_one (i := 8) (by kernel_rfl) rfl (fun K hK2 => ?_)
            go_simp
            refine hK2 _ _ ⟨.inr ⟨fun p hp => by simp at hp; rcases hp with rfl | rfl | rfl <;> rfl, fun q hq => by simp at hq; rcases hq with rfl | rfl <;> first | exact bG1 | exact be⟩, ?_⟩
            clear hK2 K
            have al := (Below.refl W2.heap.size W2).alloc (Nat.le_refl _) (.cells #[.int .i64 (eb : Int), .slice (some ⟨h, 0, none⟩) 4096 c] 89)
            have bN := Box.new W2 #[.int .i64 (eb : Int), .slice (some ⟨h, 0, none⟩) 4096 c] 89
            refine wpAnyD_one (i := 9) (by kernel_rfl) rfl (fun K hK2 => ?_)
            go_simp
            replace be := be.below al
            replace bG1 := bG1.below al
            replace bH1 := bH1.below al
            replace own1 := owns_belowH own1 al
            replace J2 := J2.below al
            replace A1 := A1.trans (al.mono A1.size)
            replace B1' := B1'.trans (al.mono B1'.size)
            refine hK2 _ _ ⟨.inr ⟨fun p hp => by simp at hp; rcases hp with rfl | rfl | rfl <;> rfl, fun q hq => by simp at hq; rcases hq with rfl | rfl <;> first | exact bG1 | exact be⟩, ?_⟩
            clear hK2 K
            refine wpAnyD_one (i := 10) (by kernel_rfl) rfl (fun K hK2 => ?_)
            rw [if_pos (by rfl)]
            refine wp_append_own _ _ _ 29 rfl w1.heap.size 89 i0 (.agg #[.int .i64 0, .slice none 0 0]) 2 32 Tryz.underlying29 hi hz0 hz1 hz2 rfl (by decide) _ k _ rfl own1 ⟨W2.heap.size, 0, none⟩ 1 1 [.int .i64 (eb : Int), .slice (some ⟨h, 0, none⟩) 4096 c] rfl rfl (two_cells bN) (fun u hu => by simp at hu; rcases hu with rfl | rfl <;> rfl) (by unfold maxLen; omega) (by omega) A1.size ?_
            intro v' w4 own4 hg4 _
            have hnx : ∀ {g : Nat} {cs : Array Value} {t : TypeId}, Box _ g cs t → (89 : TypeId) ≠ t → Box w4 g cs t := fun hb ht => hb.grown hg4 (fun e => by
              obtain ⟨_, cur, q⟩ := owns_block own1 _ e
              exact q.ne hb ht rfl)
            replace be := hnx be (by decide)
            replace bG1 := hnx bG1 (by decide)
            replace bH1 := hnx bH1 (by decide)
            replace J2 := J2.grown own1 (by decide) hg4
            have own1b := own1
            have A4 : Below w1.heap.size w1 w4 := A1.grown hg4 A1.size (fun j e => (owns_block own1b j e).1)
            have B4 := B1'.grown hg4 B1'.size (fun j e => Nat.le_trans B1.size (owns_block own1b j e).1)
            refine hK2 _ _ ⟨.inr ⟨fun p hp => by simp at hp; rcases hp with rfl | rfl | rfl <;> rfl, fun q hq => by simp at hq; rcases hq with rfl | rfl <;> first | exact bG1 | exact be⟩, ?_⟩
            clear hK2 K hnx own1 own1b A1 B1' bN al hg4
            obtain ⟨av4, cv4, rfl⟩ := owns_shape own4
            refine wpAnyD_one (i := 11) (by kernel_rfl) rfl (fun K hK2 => ?_)
            go_simp
            refine hK2 _ _ ⟨.inr ⟨fun p hp => by simp at hp; rcases hp with rfl | rfl | rfl <;> rfl, fun q hq => by simp at hq; rcases hq with rfl | rfl <;> first | exact bG1 | exact be⟩, ?_⟩
            clear hK2 K
            have f4 := bG1.frozen 2
            have z4 := bG1.cell 2
            refine wpAnyD_one (i := 12) (by kernel_rfl) rfl (fun K hK2 => ?_)
            go_simp
            refine hK2 _ _ ⟨.inl rfl, ?_⟩
            clear hK2 K
            have bG5 := bG1.store 2 (.slice av4 (k + 1) cv4)
            have bH5 : Box (w4.setCell ⟨gb, 2, none⟩ (.slice av4 (k + 1) cv4)) hb _ 250 := (heap_setCell_other w4 ⟨gb, 2, none⟩ hb _ (by show hb ≠ gb; omega)).trans bH1
            have J5 := J2.store (j := 2) bG1 (by decide) (.slice av4 (k + 1) cv4)
            have A5 := A4.setCell (p := ⟨gb, 2, none⟩) (by show w1.heap.size ≤ gb; omega) (.slice av4 (k + 1) cv4)
            have own5 : (w4.setCell ⟨gb, 2, none⟩ (.slice av4 (k + 1) cv4)).ownsRow w1.heap.size 89 2 (.slice av4 (k + 1) cv4) (k + 1) _ := owns_grown own4 (grown_store w4 gb 2 _) (fun g eg e => by
              cases e
              obtain ⟨_, cur2, q2⟩ := owns_block own4 _ eg
              exact q2.ne bG1 (by decide) rfl)
            refine wpAnyD_done (by kernel_rfl) ?_ _
            clear own4 bG1 bH1 J2 A4 B4 be f4 z4
            go_wp2
            go_roundw
            case rel =>
              refine ⟨k + 1, ps ++ [⟨(eb : Int), _, h, c⟩], by omega, by go_num, ?_, ?_, ⟨_, by simpa using bG5, ?_⟩, J5, bH5, A5⟩
              · rw [List.map_append, HPS.out, imgsTo_succ, HIO.out]
                rfl
              · intro j hj
                by_cases hjk : j < k
                · exact HST.out j hjk
                · obtain rfl : j = k := by omega
                  rw [HSK.out]
                  exact hsb
              · have e1 : imgC (ps ++ [⟨(eb : Int), (unhideTo ys eh (List.finRange 8)).1, h, c⟩]) = imgC ps ++ [.int .i64 (eb : Int), .slice (some ⟨h, 0, none⟩) 4096 c] := by simp [imgC]
                rw [e1]
                exact own5
            case measure => simp [intOf]; omega
        · obtain rfl : k = m := by omega
          obtain ⟨av, cv, rfl⟩ := owns_shape hown
          have hyes : Hid IG := hg3.out.2 HST.out
          have b0V := BOXW.out _ hB1
          have g0 := bG.cell 0
          have g1 := bG.cell 1
          have g2 := bG.cell 2
          have y0 := b0V.cell 0
          have y1 := b0V.cell 1
          have y2 := b0V.cell 2
          have f0 := b0V.frozen 0
          have st0 : Box (wr.setCell ⟨w.heap.size, 0, none⟩ (.int .i64 (E : Int))) w.heap.size #[.int .i64 (E : Int), .int .i64 0, .slice none 0 0] 203 := by have := b0V.store 0 (.int .i64 (E : Int)); simpa using this
          have st1 : Box ((wr.setCell ⟨w.heap.size, 0, none⟩ (.int .i64 (E : Int))).setCell ⟨w.heap.size, 1, none⟩ (.int .i64 (S : Int))) w.heap.size #[.int .i64 (E : Int), .int .i64 (S : Int), .slice none 0 0] 203 := by have := st0.store 1 (.int .i64 (S : Int)); simpa using this
          have st2 : Box (((wr.setCell ⟨w.heap.size, 0, none⟩ (.int .i64 (E : Int))).setCell ⟨w.heap.size, 1, none⟩ (.int .i64 (S : Int))).setCell ⟨w.heap.size, 2, none⟩ (.slice av k cv)) w.heap.size #[.int .i64 (E : Int), .int .i64 (S : Int), .slice av k cv] 203 := by have := st1.store 2 (.slice av k cv); simpa using this
          have fr1 := b0V.frozen 1
          have fr2 := b0V.frozen 2
          have h1 := st0.frozen 1
          have h2 := st1.frozen 2
          have h1c := st0.cell 1
          have h2c := st1.cell 2
          have m0 := st2.cell 0
          have m1 := st2.cell 1
          have m2 := st2.cell 2
          have J3 := ((hJ.store (j := 0) b0V (by decide) (.int .i64 (E : Int))).store (j := 1) st0 (by decide) (.int .i64 (S : Int))).store (j := 2) st1 (by decide) (.slice av k cv)
          have hneO : ∀ g', (Value.slice av k cv).ownBlock = some g' → some w.heap.size ≠ some g' := fun g' eg e => by
            cases e
            obtain ⟨_, cur2, q2⟩ := owns_block hown _ eg
            exact q2.ne b0V (by decide) rfl
          have own3 := owns_grown (owns_grown (owns_grown hown (grown_store wr w.heap.size 0 (.int .i64 (E : Int))) hneO) (grown_store _ w.heap.size 1 (.int .i64 (S : Int))) hneO) (grown_store _ w.heap.size 2 (.slice av k cv)) hneO
          have B9 := ((hB.setCell (p := ⟨w.heap.size, 0, none⟩) (by simp) (.int .i64 (E : Int))).setCell (p := ⟨w.heap.size, 1, none⟩) (by simp) (.int .i64 (S : Int))).setCell (p := ⟨w.heap.size, 2, none⟩) (by simp) (.slice av k cv)
          clear bG bH hown hJ hneO hB1
          go_wp2
          refine bodyPost_ret (v := .tuple #[.agg #[.int .i64 (E : Int), .int .i64 (S : Int), .slice av k cv], .int .i64 0]) (by simp [results, Tryz.results273, go_sem, m0, m1, m2]) rfl ?_
          exact .inl ⟨hyes.out, av, cv, ps, by rw [← HEE.out, ← HSS.out, ← HES.out, ← HM.out], by rw [← HES.out, ← HM.out]; exact owns_base own3 B1.size, J3, by rw [← HES.out, ← HM.out]; exact HPS.out, B9⟩
    · have hq : ((n : Int) != (m : Int) + 1) = true := by simp; omega
      have hno : Hid (¬ IG) := fun h => hnm (HG2.out.1 h).1
      have y0 := b02.cell 0
      have y1 := b02.cell 1
      have y2 := b02.cell 2
      have f0 := b02.frozen 0
      have f1 := b02.frozen 1
      have f2 := b02.frozen 2
      have zb := zero_box b02
      have m0 := zb.cell 0
      have m1 := zb.cell 1
      have m2 := zb.cell 2
      clear hnm HG2
      go_wp2
      refine bodyPost_ret (v := .tuple #[.agg #[.int .i64 0, .int .i64 0, .slice none 0 0], .int .i64 80]) (by simp [results, Tryz.results273, go_sem, m0, m1, m2]) rfl ?_
      exact .inr ⟨hno.out, rfl, zero_below B2⟩
  · replace b0 := b0.below hb1
    have B1 := B0.trans (hb1.mono B0.size)
    have hno : Hid (¬ IG) := fun h => hhd (HG.out.1 h).1
    have al := (Below.refl w1.heap.size w1).alloc (Nat.le_refl _) (.cells #[.int .i64 0, .int .i64 0, .slice none 0 0] 250)
    replace b0 := b0.below al
    have B2 := B1.trans (al.mono B1.size)
    clear hhd hb1 cH q1'
    have y0 := b0.cell 0
    have y1 := b0.cell 1
    have y2 := b0.cell 2
    have f0 := b0.frozen 0
    have f1 := b0.frozen 1
    have f2 := b0.frozen 2
    have zb := zero_box b0
    have m0 := zb.cell 0
    have m1 := zb.cell 1
    have m2 := zb.cell 2
    go_wp2
    refine bodyPost_ret (v := .tuple #[.agg #[.int .i64 0, .int .i64 0, .slice none 0 0], .int .i64 80]) (by simp [results, Tryz.results273, go_sem, m0, m1, m2]) rfl ?_
    exact .inr ⟨hno.out, rfl, zero_below B2⟩
end Go.Proofs.YtnldkpckojhbhaaGreat.Rc

/-
  Put of what is no right group; Head.
-/
namespace Go.Proofs.YtnldkpckojhbhaaGreat.Rc
open Go.RowKit

def HeadR (w : World) (xs : List UInt8) (r : Ending) (w' : World) : Prop :=
  (isHead xs ∧ r = .returned (.tuple #[.int .i64 (saidE xs : Int), .int .i64 (saidS xs : Int), .int .i64 ((saidEs xs).length : Int), .bool true]) ∧ Below w.heap.size w w') ∨
  (¬ isHead xs ∧ r = .returned (.tuple #[.int .i64 0, .int .i64 0, .int .i64 0, .bool false]) ∧ Below w.heap.size w w')

set_option maxRecDepth 100000 in
set_option maxHeartbeats 1000000 in
theorem head_at (a : Option Addr) (n cap : Nat) (xs : List UInt8) (w : World) (hl : xs.length = n) (hcap : n ≤ cap) (hmax : cap ≤ 9223372036854775807) (hr : Rd w a xs) : Calls Tryz.prog 272 #[.slice a n cap] w (HeadR w xs) := by
  have c := getHeading_at a n cap xs w hl hcap hmax hr
  clear hl
  go_enter Tryz.func272, Tryz.ntmps272
  go_wp2_with fail
  refine c.mono ?_
  rintro r w1 (⟨hhd, ah, ch, rfl, hEn, hb1⟩ | ⟨hhd, rfl, hb1⟩)
  · have hx : Hid (isHead xs) := hhd
    clear hhd c hEn
    have bh := Box.new w1 #[.int .i64 (saidE xs : Int), .int .i64 (saidS xs : Int), .slice ah (saidEs xs).length ch] 250
    have B1 := hb1.alloc hb1.size (.cells #[.int .i64 (saidE xs : Int), .int .i64 (saidS xs : Int), .slice ah (saidEs xs).length ch] 250)
    have y0 := bh.cell 0
    have y1 := bh.cell 1
    have y2 := bh.cell 2
    go_wp2_with fail
    go_quiet (fail)
    go_wp2
    refine bodyPost_ret (v := .tuple #[.int .i64 (saidE xs : Int), .int .i64 (saidS xs : Int), .int .i64 ((saidEs xs).length : Int), .bool true]) (by simp [results, Tryz.results272, go_sem]) rfl ?_
    exact .inl ⟨hx.out, rfl, ⟨B1.os, B1.tape, B1.output, B1.size, B1.block⟩⟩
  · have hx : Hid (¬ isHead xs) := hhd
    clear hhd c
    have bh := Box.new w1 #[.int .i64 0, .int .i64 0, .slice none 0 0] 250
    have B1 := hb1.alloc hb1.size (.cells #[.int .i64 0, .int .i64 0, .slice none 0 0] 250)
    have y0 := bh.cell 0
    have y1 := bh.cell 1
    have y2 := bh.cell 2
    go_wp2_with fail
    go_quiet (fail)
    go_wp2
    refine bodyPost_ret (v := .tuple #[.int .i64 0, .int .i64 0, .int .i64 0, .bool false]) (by simp [results, Tryz.results272, go_sem]) rfl ?_
    exact .inr ⟨hx.out, rfl, ⟨B1.os, B1.tape, B1.output, B1.size, B1.block⟩⟩
end Go.Proofs.YtnldkpckojhbhaaGreat.Rc

/-
  Blocks, sector by sector: what the walks through sectors come to. No walk here.
-/
namespace Go.Proofs.YtnldkpckojhbhaaGreat.Rc

def cat (f : Fin 8 → List UInt8) (k : Nat) : List UInt8 := (firsts k).flatMap f
theorem cat_succ (f : Fin 8 → List UInt8) (k : Nat) (h : k < 8) : cat f (k + 1) = cat f k ++ f ⟨k, h⟩ := by unfold cat; rw [firsts_succ k h]; simp
theorem cat_length (f : Fin 8 → List UInt8) (n : Nat) (hf : ∀ x, (f x).length = n) : ∀ k, k ≤ 8 → (cat f k).length = k * n
  | 0, _ => by simp [cat, firsts]
  | k + 1, h => by rw [cat_succ f k h, List.length_append, cat_length f n hf k (by omega), hf, Nat.add_mul, Nat.one_mul]
theorem over_app (A B M : List UInt8) (off : Nat) (h : A.length = off) : over (A ++ B) off M = A ++ (M ++ B.drop M.length) := by
  subst h
  unfold over
  rw [List.take_left, List.drop_append]
  congr 2
  rw [List.drop_eq_nil_of_le (by omega), List.nil_append]
  congr 1
  omega
theorem drop_sec (xs : List UInt8) (k : Nat) : xs.drop (k * 512 + 8) = (sec xs k).drop 8 ++ xs.drop ((k + 1) * 512) := by
  unfold sec
  rw [List.drop_take, List.drop_drop]
  have e : xs.drop ((k + 1) * 512) = (xs.drop (k * 512 + 8)).drop 504 := by rw [List.drop_drop]; exact congrArg (fun i => xs.drop i) (by omega)
  rw [e]
  exact (List.take_append_drop 504 _).symm
theorem sec_app (A B : List UInt8) (k : Nat) (h : A.length = k * 512) : sec (A ++ B) k = B.take 512 := by
  unfold sec
  rw [List.drop_append, List.drop_eq_nil_of_le (by omega), List.nil_append, h, Nat.sub_self, List.drop_zero]

theorem hideTo_firsts (xs M : List UInt8) (hl : xs.length = 4096) (hm : M.length = 8) : ∀ k, k ≤ 8 → hideTo xs M (firsts k) = (cat (fun x => M ++ (sec xs x.val).drop 8) k ++ xs.drop (k * 512), cat (fun x => (sec xs x.val).take 8) k)
  | 0, _ => by simp [hideTo, firsts, cat]
  | k + 1, h => by
    have hA : (cat (fun x => M ++ (sec xs x.val).drop 8) k).length = k * 512 := cat_length _ 512 (fun x => by have := sec_length xs x.val hl x.isLt; simp [this, hm]) k (by omega)
    rw [firsts_succ k h, hideTo_snoc, hideTo_firsts xs M hl hm k (by omega), cat_succ _ k h, cat_succ _ k h]
    unfold hideStep
    dsimp only
    rw [over_app _ _ _ _ hA, sec_app _ _ _ hA, hm, List.drop_drop, drop_sec]
    simp only [List.append_assoc]
    rfl
theorem putTo_firsts (Z M BB : List UInt8) (hl : Z.length = 4096) (hm : M.length = 8) (hb : BB.length = 4032) : ∀ k, k ≤ 8 → putTo Z M BB (firsts k) = (cat (fun x => M ++ (BB.drop (x.val * 504)).take 504) k ++ Z.drop (k * 512), k)
  | 0, _ => by simp [putTo, firsts, cat]
  | k + 1, h => by
    have hA : (cat (fun x => M ++ (BB.drop (x.val * 504)).take 504) k).length = k * 512 := cat_length _ 512 (fun x => by have := x.isLt; simp [hm]; omega) k (by omega)
    have h5 : ((BB.drop (k * 504)).take 504).length = 504 := by simp; omega
    rw [firsts_succ k h, putTo_snoc, putTo_firsts Z M BB hl hm hb k (by omega), cat_succ _ k h]
    unfold putStep
    dsimp only
    rw [over_app _ _ _ _ hA, ← List.append_assoc, over_app _ _ _ (k * 512 + 8) (by rw [List.length_append, hA, hm]), h5, hm, List.drop_drop, List.drop_drop]
    have e0 : k * 512 + 8 + 504 = (k + 1) * 512 := by omega
    rw [e0]
    simp only [List.append_assoc]

theorem stB_cat (M xs : List UInt8) (hl : xs.length = 4096) (hm : M.length = 8) : stB M xs = cat (fun x => M ++ (sec xs x.val).drop 8) 8 := by
  unfold stB
  rw [← firsts_all, hideTo_firsts xs M hl hm 8 (by omega)]
  simp [List.drop_eq_nil_of_le, hl]
theorem hdB_cat (M xs : List UInt8) (hl : xs.length = 4096) (hm : M.length = 8) : hdB M xs = cat (fun x => (sec xs x.val).take 8) 8 := by
  unfold hdB
  rw [← firsts_all, hideTo_firsts xs M hl hm 8 (by omega)]
theorem headB_cat (e s : Nat) (es : List (Nat × List UInt8)) (hb : (bodyB es).length = 4032) : headB e s es = cat (fun x => mark e s ++ ((bodyB es).drop (x.val * 504)).take 504) 8 := by
  unfold headB
  rw [← firsts_all, putTo_firsts _ _ _ (nought_length _) (mark_length _ _) hb 8 (by omega)]
  have : (nought 4096).drop (8 * 512) = [] := List.drop_eq_nil_of_le (by rw [nought_length]; omega)
  rw [this, List.append_nil]
theorem part_cat (f : Fin 8 → List UInt8) (n : Nat) (hf : ∀ x, (f x).length = n) (x : Fin 8) : ∀ k, k ≤ 8 → x.val < k → ((cat f k).drop (x.val * n)).take n = f x
  | 0, _, h => absurd h (by omega)
  | k + 1, hk, h => by
    have hl := cat_length f n hf k (by omega)
    rw [cat_succ f k hk]
    by_cases hx : x.val < k
    · have h1 : x.val * n + n ≤ k * n := by
        have := Nat.mul_le_mul_right n (show x.val + 1 ≤ k from hx)
        rw [Nat.add_mul, Nat.one_mul] at this
        exact this
      rw [List.drop_append_of_le_length (by omega), List.take_append_of_le_length (by rw [List.length_drop]; omega)]
      exact part_cat f n hf x k (by omega) hx
    · obtain ⟨xv, hxv⟩ := x
      obtain rfl : xv = k := by simp at h hx; omega
      rw [List.drop_append, List.drop_eq_nil_of_le (by rw [hl]; exact Nat.le_refl _), List.nil_append, hl, Nat.sub_self, List.drop_zero, List.take_of_length_le (by rw [hf]; exact Nat.le_refl _)]
theorem sec_cat (f : Fin 8 → List UInt8) (hf : ∀ x, (f x).length = 512) (x : Fin 8) : sec (cat f 8) x.val = f x := part_cat f 512 hf x 8 (by omega) x.isLt
end Go.Proofs.YtnldkpckojhbhaaGreat.Rc

/-
  What is put is got: no walk here.
-/
namespace Go.Proofs.YtnldkpckojhbhaaGreat.Rc

section
variable {e s : Nat} {es : List (Nat × List UInt8)}
theorem part_len (hb : (bodyB es).length = 4032) (x : Fin 8) : (mark e s ++ ((bodyB es).drop (x.val * 504)).take 504).length = 512 := by
  have := x.isLt
  simp [mark_length, hb]
  omega
theorem sec_head (hb : (bodyB es).length = 4032) (x : Fin 8) : sec (headB e s es) x.val = mark e s ++ ((bodyB es).drop (x.val * 504)).take 504 := by
  rw [headB_cat e s es hb]
  exact sec_cat _ (part_len hb) x
theorem headB_length (hb : (bodyB es).length = 4032) : (headB e s es).length = 4096 := by
  rw [headB_cat e s es hb, cat_length _ 512 (part_len hb) 8 (by omega)]
theorem be_mark (he : e ≤ 8388608) (hs : s ≤ 549755813888) : beNat (mark e s) = stampN e s := by
  unfold mark
  rw [beNat_toBE]
  refine Nat.mod_eq_of_lt ?_
  unfold stampN
  omega
end

def entL (M : List UInt8) (is : List (Int × List UInt8)) : List (Nat × List UInt8) := is.map fun i => (i.1.toNat, hdB M i.2)
def putL (e s : Nat) (is : List (Int × List UInt8)) : List (List UInt8) := headB e s (entL (mark e s) is) :: is.map fun i => stB (mark e s) i.2

section
variable {e s : Nat} {is : List (Int × List UInt8)}
theorem hdB_length (M xs : List UInt8) (hl : xs.length = 4096) (hm : M.length = 8) : (hdB M xs).length = 64 := by
  rw [hdB_cat M xs hl hm, cat_length _ 8 (fun x => by have := sec_length xs x.val hl x.isLt; simp [this]) 8 (by omega)]
theorem stB_length (M xs : List UInt8) (hl : xs.length = 4096) (hm : M.length = 8) : (stB M xs).length = 4096 := by
  rw [stB_cat M xs hl hm, cat_length _ 512 (fun x => by have := sec_length xs x.val hl x.isLt; simp [this, hm]) 8 (by omega)]
theorem entL_len (hok : okGroup e s is) : ∀ x ∈ entL (mark e s) is, x.2.length = 64 := fun x hx => by
  obtain ⟨i, hi, rfl⟩ := List.mem_map.1 hx
  exact hdB_length _ _ (hok.2 i hi) (mark_length _ _)
theorem entL_length (M : List UInt8) : (entL M is).length = is.length := by simp [entL]
theorem is_length (hok : okGroup e s is) : 1 ≤ is.length ∧ is.length ≤ 32 := by have := hok.1.2.1; simpa using this
end
end Go.Proofs.YtnldkpckojhbhaaGreat.Rc

/-
  A group is taken only if all of it was written: no walk here.
-/
namespace Go.Proofs.YtnldkpckojhbhaaGreat.Rc

theorem mark_ne {e s : Nat} (he : 1 ≤ e) (he2 : e ≤ 8388608) (hs : s ≤ 549755813888) : mark e s ≠ List.replicate 8 0 := fun h => by
  have h1 := congrArg beNat h
  rw [be_mark he2 hs] at h1
  have h2 : beNat (List.replicate 8 0) = 0 := by decide
  rw [h2] at h1
  unfold stampN at h1
  omega

theorem grp_marks {ls : List (List UInt8)} (h : isGrp ls) (b : Nat) (hb : b < ls.length) (x : Fin 8) : (sec ls[b] x.val).take 8 = mark (saidE (ls[0]?.getD [])) (saidS (ls[0]?.getD [])) := by
  obtain ⟨h0, hh, hn, hs⟩ := h
  cases b with
  | zero =>
    have e0 : ls[0] = ls[0]?.getD [] := by simp [h0]
    rw [e0]
    obtain ⟨h1, h2, h3⟩ := hh
    have hlen : ∀ y ∈ saidEs (ls[0]?.getD []), y.2.length = 64 := by
      intro y hy
      unfold saidEs at hy
      split at hy
      · unfold entsOf at hy
        obtain ⟨i, hi, rfl⟩ := List.mem_map.1 hy
        have hi' : i < cntOf (bodyX (ls[0]?.getD [])) := by simpa using hi
        have hbl := bodyX_length _ h1
        unfold entOf
        show ((List.drop (8 + i * 66) _).take 64).length = 64
        rw [List.length_take, List.length_drop, hbl]
        omega
      · cases hy
    have hbd : (bodyB (saidEs (ls[0]?.getD []))).length = 4032 := bodyB_length _ hlen (by have := h2.2.1; simpa using this.2)
    have h4 := sec_head (e := saidE (ls[0]?.getD [])) (s := saidS (ls[0]?.getD [])) hbd x
    rw [← h3] at h4
    rw [h4]
    exact List.take_left' (mark_length _ _)
  | succ j =>
    have hj : j < (saidEs (ls[0]?.getD [])).length := by omega
    have h1 := hs j hj
    have e1 : ls[j + 1]?.getD [] = ls[j + 1] := by simp [hb]
    rw [e1] at h1
    unfold stampedB allMarked at h1
    simp only [Bool.and_eq_true, List.all_eq_true] at h1
    have h2 := h1.2.2 x (List.mem_finRange x)
    simpa using h2
theorem grp_ok {ls : List (List UInt8)} (h : isGrp ls) : okStamp (saidE (ls[0]?.getD [])) (saidS (ls[0]?.getD [])) = true := h.2.1.2.1.1
section
variable {e s e' s' : Nat} {is is' : List (Int × List UInt8)}
end
end Go.Proofs.YtnldkpckojhbhaaGreat.Rc

/-
  SameLists, SameImages, SameGroup.
-/
namespace Go.Proofs.YtnldkpckojhbhaaGreat.Rc
open Go.RowKit

theorem below_drewN {B : Nat} {a w : World} (h : Below B a w) (n : Nat) : Below B a (w.drewN n) := ⟨h.os, h.tape, h.output, h.size, h.block⟩
theorem LstAt.drewN {w : World} {b o : Nat} {xs : List UInt8} (h : LstAt w b o xs) (n : Nat) : LstAt (w.drewN n) b o xs := h.below (below_drewN (Below.refl _ _) n)

end Go.Proofs.YtnldkpckojhbhaaGreat.Rc

/-
  What the laws' own helpers make: filled, one, CopyLists.
-/
namespace Go.Proofs.YtnldkpckojhbhaaGreat.Rc
open Go.RowKit

def fillK (c : UInt8) (k : Nat) : List UInt8 := (List.range 4096).map fun i => if i < k then c else 0
def fill (c : UInt8) : List UInt8 := fillK c 4096
theorem fillK_length (c : UInt8) (k : Nat) : (fillK c k).length = 4096 := by simp [fillK]
theorem fill_length (c : UInt8) : (fill c).length = 4096 := fillK_length c 4096
theorem fillK_get (c : UInt8) (k i : Nat) : (fillK c k)[i]? = if i < 4096 then some (if i < k then c else 0) else none := by
  unfold fillK
  rw [List.getElem?_map]
  by_cases h : i < 4096
  · rw [List.getElem?_range h, if_pos h]; rfl
  · rw [List.getElem?_eq_none (by simp; omega), if_neg h]; rfl
theorem fill_get (c : UInt8) (i : Nat) (h : i < 4096) : (fill c)[i]? = some c := by
  unfold fill
  rw [fillK_get, if_pos h, if_pos h]

end Go.Proofs.YtnldkpckojhbhaaGreat.Rc

/-
  CopyLists: blocks in memory of their own.
-/
namespace Go.Proofs.YtnldkpckojhbhaaGreat.Rc
open Go.RowKit

def lstC (ps : List GG) : List Value := ps.map fun p => .slice (some ⟨p.h, 0, none⟩) 4096 p.c

end Go.Proofs.YtnldkpckojhbhaaGreat.Rc

/-
  What Put leaves, as lists.
-/
namespace Go.Proofs.YtnldkpckojhbhaaGreat.Rc
open Go.RowKit

theorem cap_le {c : Nat} (h : c ≤ maxLen) : c ≤ 9223372036854775807 := by unfold maxLen at h; omega
theorem lst_row {w : World} {g o h c : Nat} {bl : List UInt8} (hc : w.cell? ⟨g, o, none⟩ = some (.slice (some ⟨h, 0, none⟩) 4096 c)) (hr : RowB w h c bl) (hl : bl.length = 4096) : LstAt w g o bl := by
  have q2 := hr
  obtain ⟨cur, hb, k1, k2, k3⟩ := q2
  exact ⟨some ⟨h, 0, none⟩, c, by rw [hl]; exact hc, k1, cap_le k2, fun h => (by cases h), hr.rd⟩
theorem rowC_at (ps : List PP) (i : Nat) (h : i < ps.length) : (rowC ps)[i]? = some (.slice (some ⟨(ps[i]).h, 0, none⟩) 4096 (ps[i]).c) := by simp [rowC, h]
theorem esOf_entL (M : List UInt8) (ps : List PP) : esOf M ps = entL M (ps.map fun p => (p.b, p.xs)) := by simp [esOf, entL]

end Go.Proofs.YtnldkpckojhbhaaGreat.Rc

/-
  A byte of one of many blocks is written.
-/
namespace Go.Proofs.YtnldkpckojhbhaaGreat.Rc
open Go.RowKit

end Go.Proofs.YtnldkpckojhbhaaGreat.Rc

/-
  Put and Get in one form each: what comes back, as lists in memory.
-/
namespace Go.Proofs.YtnldkpckojhbhaaGreat.Rc
open Go.RowKit

theorem owns_cells {w : World} {B e size n m : Nat} {a : Option Addr} {c : Nat} {xs : List Value} (ho : w.ownsRow B e size (.slice a n c) m xs) (h0 : 0 < m) :
    ∃ g, a = some ⟨g, 0, none⟩ ∧ B ≤ g ∧ (∃ cur, Box w g cur e) ∧ ∀ j, j < m * size → w.cell? ⟨g, j, none⟩ = xs[j]? := by
  rcases ho.2 with ⟨h1, h2⟩ | ⟨g, cap, cur, h1, hBg, hg2, hnc, hcm, hcs, ht⟩
  · omega
  · injection h1 with h1
    subst h1
    have hB : Box w g cur e := hg2
    refine ⟨g, rfl, hBg, ⟨cur, hB⟩, fun j hj => ?_⟩
    rw [hB.cell j, ← ht, List.getElem?_take, if_pos hj]
    simp
theorem imgs_of {w : World} {B m : Nat} {a : Option Addr} {n c : Nat} {qs : List GG} (ho : w.ownsRow B 89 2 (.slice a n c) m (imgC qs)) (hj : GetJ B w qs) (hm : qs.length = m) : Imgs w a (qs.map fun p => (p.b, p.xs)) := fun h0 => by
  have hq : 0 < qs.length := by simpa using h0
  obtain ⟨g, rfl, _, _, hc⟩ := owns_cells ho (by omega)
  refine ⟨g, 0, rfl, fun j hjl => ?_⟩
  have hjq : j < qs.length := by simpa using hjl
  obtain ⟨q1, _, q3⟩ := hj.rows qs[j] (List.getElem_mem hjq)
  obtain ⟨k0, k1⟩ := imgC_at qs j hjq
  have q4 := q1
  obtain ⟨cur, hb, p1, p2, _⟩ := q4
  rw [List.getElem_map]
  refine ⟨?_, some ⟨(qs[j]).h, 0, none⟩, (qs[j]).c, ?_, p1, cap_le p2, fun h => (by cases h), q1.rd⟩
  · show w.cell? ⟨g, 0 + j * 2, none⟩ = _
    rw [Nat.zero_add, hc _ (by omega), k0]
  · show w.cell? ⟨g, 0 + j * 2 + 1, none⟩ = some (.slice (some ⟨(qs[j]).h, 0, none⟩) (qs[j]).xs.length (qs[j]).c)
    rw [Nat.zero_add, hc _ (by omega), k1, q3]
theorem lsts_of {w : World} {B m : Nat} {a : Option Addr} {n c : Nat} {qs : List GG} (ho : w.ownsRow B 37 1 (.slice a n c) m (lstC qs)) (hj : GetJ B w qs) (hm : qs.length = m) : Lsts w a (qs.map GG.xs) := fun h0 => by
  have hq : 0 < qs.length := by simpa using h0
  obtain ⟨g, rfl, _, _, hc⟩ := owns_cells ho (by omega)
  refine ⟨g, 0, rfl, fun j hjl => ?_⟩
  have hjq : j < qs.length := by simpa using hjl
  obtain ⟨q1, _, q3⟩ := hj.rows qs[j] (List.getElem_mem hjq)
  rw [List.getElem_map]
  refine lst_row ?_ q1 q3
  rw [Nat.zero_add, hc j (by omega)]
  simp [lstC, hjq]

theorem putL_length (e s : Nat) (is : List (Int × List UInt8)) : (putL e s is).length = is.length + 1 := by simp [putL]
end Go.Proofs.YtnldkpckojhbhaaGreat.Rc

/-
  Made: so many bytes, out of a number.
-/
namespace Go.Proofs.YtnldkpckojhbhaaGreat.Rc
open Go.RowKit

def nx (x : Int) : Int := IntKind.u64.wrap (IntKind.u64.wrap (x * 2862933555777941757) + 3037000493)
def seedAt (s : Int) : Nat → Int
  | 0 => nx (IntKind.u64.wrap s)
  | k + 1 => if k % 8 = 0 then nx (seedAt s k) else seedAt s k
def byteAt (s : Int) (k : Nat) : UInt8 := UInt8.ofNat (seedAt s (k + 1) / 1099511627776 % 256).toNat
def madeK (s : Int) (n : Nat) : Nat → List UInt8
  | 0 => nought n
  | k + 1 => (madeK s n k).set k (byteAt s k)
def madeL (s : Int) (n : Nat) : List UInt8 := madeK s n n
theorem madeK_length (s : Int) (n : Nat) : ∀ k, (madeK s n k).length = n
  | 0 => nought_length n
  | k + 1 => by rw [madeK, List.length_set, madeK_length s n k]
theorem byteAt_eq (s : Int) (k : Nat) : ((byteAt s k).toNat : Int) = seedAt s (k + 1) / 1099511627776 % 256 := by
  unfold byteAt
  have h1 : 0 ≤ seedAt s (k + 1) / 1099511627776 % 256 := Int.emod_nonneg _ (by decide)
  have h2 : seedAt s (k + 1) / 1099511627776 % 256 < 256 := Int.emod_lt_of_pos _ (by decide)
  rw [UInt8.toNat_ofNat']
  omega
theorem seedAt_step (s : Int) (k : Nat) (h : k % 8 = 0) : seedAt s (k + 1) = nx (seedAt s k) := by rw [seedAt, if_pos h]
theorem seedAt_same (s : Int) (k : Nat) (h : ¬ k % 8 = 0) : seedAt s (k + 1) = seedAt s k := by rw [seedAt, if_neg h]
theorem nx_range (x : Int) : 0 ≤ nx x ∧ nx x ≤ 18446744073709551615 := by unfold nx; rw [IntKind.wrap_u64]; omega
theorem seedAt_range (s : Int) : ∀ k, 0 ≤ seedAt s k ∧ seedAt s k ≤ 18446744073709551615
  | 0 => nx_range _
  | k + 1 => by rw [seedAt]; split; exact nx_range _; exact seedAt_range s k

set_option maxRecDepth 100000 in
set_option maxHeartbeats 2000000 in
theorem made_at (s : Int) (n : Nat) (w : World) (hn : n ≤ 1000000) :
    Calls Tryz.prog 21 #[.int .i64 s, .int .i64 (n : Int)] w fun e w' => e = .returned (.slice (some ⟨w.heap.size, 0, none⟩) n n) ∧ Own w' w.heap.size (madeL s n) ∧ Below w.heap.size w w' := by
  have hm : ∀ u : World, (Instr.makeSlice 37 (.int .i64 (n : Int)) (.int .i64 (n : Int))).run Tryz.prog u = .ok (.slice (some ⟨u.heap.size, 0, none⟩) n n) (u.alloc (.cells (bcs (madeK s n 0)).toArray 5)) := make_run n (by omega)
  have o0 := own_lit w (madeK s n 0)
  have B0 := (Below.refl w.heap.size w).alloc (Nat.le_refl _) (.cells (bcs (madeK s n 0)).toArray 5)
  obtain ⟨U, hU⟩ : ∃ U, U = w.alloc (.cells (bcs (madeK s n 0)).toArray 5) := ⟨_, rfl⟩
  rw [← hU] at o0 B0
  have HU : Hid _ := hU
  clear hU
  go_enter Tryz.func21, Tryz.ntmps21
  go_wp2_with fail
  rw [← HU.out]
  go_loopw [6, 7] (fun x i wr => ∃ k : Nat, k ≤ n ∧ x = .int .u64 (seedAt s k) ∧ i = .int .i64 k ∧ Own wr w.heap.size (madeK s n k) ∧ Below w.heap.size w wr) (fun _ i _ => n - (intOf i).toNat)
  case atStart => exact ⟨0, Nat.zero_le _, rfl, rfl, o0, B0⟩
  case round =>
    obtain ⟨k, hk, rfl, rfl, o, B⟩ := hrel
    clear o0 B0 hm HU
    by_cases hlt : k < n
    · have hlt2 : (k : Int) < (n : Int) := by omega
      have c0 := o.cell k (by rw [madeK_length]; exact hlt)
      have f0 := o.frozen k
      have o1 := o.store k (byteAt s k)
      have B1 := B.setCell (p := ⟨w.heap.size, k, none⟩) (Nat.le_refl _) (.int .u8 ((byteAt s k).toNat : Int))
      generalize ((madeK s n k)[k]'(by rw [madeK_length]; exact hlt)) = q at c0
      have o1' : Own _ w.heap.size (madeK s n (k + 1)) := o1
      clear o1
      rw [byteAt_eq] at o1' B1
      have r0 := seedAt_range s k
      by_cases h8 : k % 8 = 0
      · have e8 : ((k : Int) % 8 == 0) = true := by simp; omega
        rw [seedAt_step s k h8] at o1' B1
        unfold nx at o1' B1
        have Hs : Hid _ := seedAt_step s k h8
        clear h8
        go_wp2
        go_roundw
        case rel => exact ⟨k + 1, by omega, by rw [Hs.out]; rfl, by go_num, o1', B1⟩
        case measure => simp [intOf]; omega
      · have e8 : ((k : Int) % 8 == 0) = false := by simp; omega
        rw [seedAt_same s k h8] at o1' B1
        have Hs : Hid _ := seedAt_same s k h8
        clear h8
        go_wp2
        go_roundw
        case rel => exact ⟨k + 1, by omega, by rw [Hs.out], by go_num, o1', B1⟩
        case measure => simp [intOf]; omega
    · have hkn : k = n := by omega
      subst k
      go_wp2
      go_ret
      exact ⟨rfl, o, B⟩
end Go.Proofs.YtnldkpckojhbhaaGreat.Rc
