/-
  rightHeading.
-/
import Derived.Test.YtghcmlkgpedkkaaEntsOf
import Derived.Test.YtghcmlkgpedkkaaLittle
namespace Go.Proofs.Ytghcmlkgpedkkaa
open Go.RowKit

/-- the blocks of entries lie here -/
def Blks (w : World) (a : Option Addr) (bs : List Int) : Prop :=
  0 < bs.length → ∃ b o, a = some ⟨b, o, none⟩ ∧ ∀ j (h : j < bs.length), w.cell? ⟨b, o + j * 2, none⟩ = some (.int .i64 bs[j]) ∧ ∃ x l c, w.cell? ⟨b, o + j * 2 + 1, none⟩ = some (.slice x l c)
theorem Blks.below {w w' : World} {a : Option Addr} {bs : List Int} (h : Blks w a bs) (hb : Below w.heap.size w w') : Blks w' a bs := fun hp => by
  obtain ⟨b, o, ha, hc⟩ := h hp
  refine ⟨b, o, ha, fun j hj => ?_⟩
  obtain ⟨h1, x, l, c, h2⟩ := hc j hj
  have hlt : b < w.heap.size := block_lt_of_cell h1
  exact ⟨(hb.cell (p := ⟨b, o + j * 2, none⟩) hlt).trans h1, x, l, c, (hb.cell (p := ⟨b, o + j * 2 + 1, none⟩) hlt).trans h2⟩
theorem Ents.blks {w : World} {a : Option Addr} {es : List (Nat × List UInt8)} (h : Ents w a es) : Blks w a (es.map fun e => (e.1 : Int)) := fun hp => by
  rw [List.length_map] at hp
  obtain ⟨b, o, ha, hc⟩ := h hp
  refine ⟨b, o, ha, fun j hj => ?_⟩
  rw [List.length_map] at hj
  obtain ⟨h1, g, q, c, h2, _⟩ := hc j hj
  exact ⟨by rw [List.getElem_map]; exact h1, _, _, _, h2⟩

/-- unlike blocks of a disk -/
def okTo (bs : List Int) (k : Nat) : Prop := ∀ j (h : j < bs.length), j < k → (0 ≤ bs[j] ∧ bs[j] ≤ 511) ∧ bs[j] ∉ bs.take j
def okHead (e s : Int) (bs : List Int) : Prop := okStamp e s = true ∧ (1 ≤ bs.length ∧ bs.length ≤ 32) ∧ okTo bs bs.length

/-- which blocks were met -/
def tk (bs : List Int) (k : Nat) : List Bool := (List.range 512).map fun (i : Nat) => decide ((i : Int) ∈ bs.take k)
theorem tk_length (bs : List Int) (k : Nat) : (tk bs k).length = 512 := by simp [tk]
theorem tk_at (bs : List Int) (k m : Nat) (h : m < 512) : (tk bs k)[m]? = some (decide ((m : Int) ∈ bs.take k)) := by simp [tk, h]
theorem tk_set (bs : List Int) (k m : Nat) (hk : k < bs.length) (hm : bs[k] = (m : Int)) (h : m < 512) : (tk bs k).set m true = tk bs (k + 1) := by
  apply List.ext_getElem?
  intro i
  rw [List.getElem?_set]
  by_cases hi : i < 512
  · rw [tk_at bs (k + 1) i hi, tk_at bs k i hi, tk_length, List.take_succ_eq_append_getElem hk, hm]
    by_cases he : m = i
    · subst he
      simp [h]
    · simp [he]
      omega
  · rw [List.getElem?_eq_none (by rw [tk_length]; omega), List.getElem?_eq_none (by rw [tk_length]; omega)]
    split <;> simp_all
def tkc (bs : List Int) (k : Nat) : Array Value := ((tk bs k).map Value.bool).toArray
theorem tkc_zero (bs : List Int) : Try.zeroCells91 = tkc bs 0 := by
  have h : Try.zeroCells91 = (List.replicate 512 (Value.bool false)).toArray := by kernel_rfl
  rw [h]
  unfold tkc tk
  have e : (fun (i : Nat) => decide ((i : Int) ∈ bs.take 0)) = fun _ => false := by funext i; simp
  rw [e, List.map_const', List.length_range, List.map_replicate]

theorem okTo_succ {bs : List Int} {k : Nat} (hk : k < bs.length) (h : okTo bs k) (h1 : 0 ≤ bs[k] ∧ bs[k] ≤ 511) (h2 : bs[k] ∉ bs.take k) : okTo bs (k + 1) := fun j hj hlt => by
  by_cases he : j < k
  · exact h j hj he
  · obtain rfl : j = k := by omega
    exact ⟨h1, h2⟩

set_option maxRecDepth 100000 in
set_option maxHeartbeats 4000000 in
theorem rightHeading_in (e s : Int) (a : Option Addr) (n cap : Nat) (bs : List Int) (w : World) (hl : bs.length = n) (h1 : 1 ≤ n) (h2 : n ≤ 32) (hok : okStamp e s = true) (hB : Blks w a bs) :
    Calls Try.prog 47 #[.agg #[.int .i64 e, .int .i64 s, .slice a n cap]] w fun r w' => ∃ q : Bool, r = .returned (.bool q) ∧ (q = true ↔ okTo bs n) ∧ Below w.heap.size w w' := by
  have c1 : ∀ u, Calls Try.prog 38 #[.int .i64 e, .int .i64 s] u fun x w' => x = .returned (.bool true) ∧ u = w' := fun u => by have := rightStamp_at e s u; rw [hok] at this; exact this
  have c2 : ∀ u, Calls Try.prog 41 #[.int .i64 (n : Int), .int .i64 1, .int .i64 32] u fun x w' => x = .returned (.bool true) ∧ u = w' := fun u => by
    have := within_at (n : Int) 1 32 u
    have e : (decide ((1 : Int) ≤ n) && decide ((n : Int) ≤ 32)) = true := by simp; omega
    rw [e] at this
    exact this
  obtain ⟨b, o, rfl, hc⟩ := hB (by omega)
  have HC : Hid (∀ j (h : j < bs.length), w.cell? ⟨b, o + j * 2, none⟩ = some (.int .i64 bs[j]) ∧ ∃ x l c, w.cell? ⟨b, o + j * 2 + 1, none⟩ = some (.slice x l c)) := hc
  have hblt : b < w.heap.size := block_lt_of_cell (hc 0 (by omega)).1
  have HL : Hid _ := hl
  clear hc hl hB
  have hz := tkc_zero bs
  have B0 := ((Below.refl w.heap.size w).alloc (Nat.le_refl _) (.cells #[.int .i64 e, .int .i64 s, .slice (some ⟨b, o, none⟩) n cap] 57)).alloc (by simp) (.cells Try.zeroCells91 91)
  have bT := Box.new (w.alloc (.cells #[.int .i64 e, .int .i64 s, .slice (some ⟨b, o, none⟩) n cap] 57)) Try.zeroCells91 91
  have s1 : (w.alloc (.cells #[.int .i64 e, .int .i64 s, .slice (some ⟨b, o, none⟩) n cap] 57)).heap.size = w.heap.size + 1 := by simp
  rw [s1, hz] at bT
  rw [hz] at B0
  have HZ : Hid _ := hz
  clear hz s1
  go_enter Try.func47, Try.ntmps47
  go_wp2_with fail
  refine (c1 _).mono ?_
  rintro r w' ⟨rfl, rfl⟩
  go_wp2_with fail
  refine (c2 _).mono ?_
  rintro r w' ⟨rfl, rfl⟩
  go_wp2_with fail
  rw [HZ.out]
  go_loopw [22] (fun i wr => ∃ k : Nat, k ≤ n ∧ i = .int .i64 k ∧ okTo bs k ∧ Box wr (w.heap.size + 1) (tkc bs k) 91 ∧ Below w.heap.size w wr) (fun i _ => n - (intOf i).toNat)
  case atStart => exact ⟨0, Nat.zero_le _, rfl, fun j _ h => absurd h (by omega), bT, B0⟩
  case round =>
    obtain ⟨k, hk, rfl, hokk, hT, hB⟩ := hrel
    clear bT B0 c1 c2
    by_cases hlt : k < n
    · have hlt2 : (k : Int) < n := by omega
      have hkl : k < bs.length := by rw [HL.out]; exact hlt
      obtain ⟨q1, x, l, c, q2⟩ := HC.out k hkl
      replace q1 := (hB.cell (p := ⟨b, o + k * 2, none⟩) hblt).trans q1
      replace q2 := (hB.cell (p := ⟨b, o + k * 2 + 1, none⟩) hblt).trans q2
      obtain ⟨B, hBB⟩ : ∃ B, bs[k] = B := ⟨_, rfl⟩
      rw [hBB] at q1
      have HBB : Hid _ := hBB
      clear hBB
      have al := (Below.refl wr.heap.size wr).alloc (Nat.le_refl _) (.cells #[.int .i64 B, .slice x l c] 62)
      have bx := Box.new wr #[.int .i64 B, .slice x l c] 62
      have x0 := bx.cell 0
      have hT1 := hT.below al
      have B1 := hB.trans (al.mono hB.size)
      have HOK : Hid _ := hokk
      clear hT al hokk
      have cw := within_at B 0 511 (wr.alloc (.cells #[.int .i64 B, .slice x l c] 62))
      by_cases hin : 0 ≤ B ∧ B ≤ 511
      · have ein : (decide ((0 : Int) ≤ B) && decide (B ≤ 511)) = true := by simpa using hin
        rw [ein] at cw
        obtain ⟨m, rfl⟩ : ∃ m : Nat, B = (m : Int) := ⟨B.toNat, by omega⟩
        have hm5 : m < 512 := by omega
        have hm6 : (m : Int) < 512 := by omega
        have tc := hT1.cell m
        have ft := hT1.frozen m
        have hts := hT1.store m (.bool true)
        have etk : (tkc bs k)[m]? = some (.bool (decide ((m : Int) ∈ bs.take k))) := by
          unfold tkc
          rw [List.getElem?_toArray, List.getElem?_map, tk_at bs k m hm5]
          rfl
        rw [etk] at tc
        have ets : (tkc bs k).setIfInBounds m (.bool true) = tkc bs (k + 1) := by
          unfold tkc
          rw [List.setIfInBounds_toArray, ← List.map_set, tk_set bs k m hkl HBB.out hm5]
        rw [ets] at hts
        have B2 := B1.setCell (p := ⟨w.heap.size + 1, m, none⟩) (by simp) (.bool true)
        clear etk ets hT1
        by_cases hmem : (m : Int) ∈ bs.take k
        · have ed : decide ((m : Int) ∈ bs.take k) = true := by simpa using hmem
          rw [ed] at tc
          have hno : Hid (¬ okTo bs n) := fun h => (h k hkl hlt).2 (by rw [HBB.out]; exact hmem)
          clear hts B2 ed hmem hin ein
          go_wp2_with fail
          refine cw.mono ?_
          rintro r w' ⟨rfl, rfl⟩
          clear cw
          go_wp2
          go_ret
          exact ⟨false, rfl, ⟨fun h => (by cases h), fun h => (hno.out h).elim⟩, B1⟩
        · have ed : decide ((m : Int) ∈ bs.take k) = false := by simpa using hmem
          rw [ed] at tc
          have hok1 : Hid (okTo bs (k + 1)) := okTo_succ hkl HOK.out (by rw [HBB.out]; exact hin) (by rw [HBB.out]; exact hmem)
          clear ed hmem hin ein B1
          go_wp2_with fail
          refine cw.mono ?_
          rintro r w' ⟨rfl, rfl⟩
          clear cw
          go_wp2
          go_roundw
          case rel => exact ⟨k + 1, by omega, by go_num, hok1.out, hts, B2⟩
          case measure => simp [intOf]; omega
      · have ein : (decide ((0 : Int) ≤ B) && decide (B ≤ 511)) = false := by simpa using hin
        rw [ein] at cw
        have hno : Hid (¬ okTo bs n) := fun h => hin (by have := (h k hkl hlt).1; rw [HBB.out] at this; exact this)
        clear hT1 ein hin
        go_wp2_with fail
        refine cw.mono ?_
        rintro r w' ⟨rfl, rfl⟩
        clear cw
        go_wp2
        go_ret
        exact ⟨false, rfl, ⟨fun h => (by cases h), fun h => (hno.out h).elim⟩, B1⟩
    · obtain rfl : k = n := by omega
      go_wp2
      go_ret
      exact ⟨true, rfl, ⟨fun _ => hokk, fun _ => rfl⟩, hB⟩
end Go.Proofs.Ytghcmlkgpedkkaa
