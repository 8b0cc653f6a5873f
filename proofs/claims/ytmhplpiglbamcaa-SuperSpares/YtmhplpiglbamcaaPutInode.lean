/-
  An inode: what is right, its bytes, PutInode.
-/
import Derived.Test.YtmhplpiglbamcaaPutExts
namespace Go.Proofs.Ytmhplpiglbamcaa
open Go.RowKit

/-- a block that was made for one value -/
def Box (w : World) (g : Nat) (cs : Array Value) (t : TypeId) : Prop := w.heap[g]? = some (.cells cs t (0, 0))
theorem Box.cell {w : World} {g : Nat} {cs : Array Value} {t : TypeId} (h : Box w g cs t) (j : Nat) : w.cell? ⟨g, j, none⟩ = cs[j]? := cell_of_row w g j cs t (0, 0) h
theorem Box.lt {w : World} {g : Nat} {cs : Array Value} {t : TypeId} (h : Box w g cs t) : g < w.heap.size := (Array.getElem?_eq_some_iff.1 h).1
theorem Box.below {w w' : World} {g : Nat} {cs : Array Value} {t : TypeId} (h : Box w g cs t) (hb : Below w.heap.size w w') : Box w' g cs t := (hb.block g h.lt).trans h
theorem Box.new (w : World) (cs : Array Value) (t : TypeId) : Box (w.alloc (.cells cs t)) w.heap.size cs t := heap_alloc_new w _

theorem own_ne32 {w : World} {B n Q : Nat} {v : Value} {xs : List Value} {cs : Array Value} (h : w.ownsRow B 5 1 v n xs) (hq : Box w Q cs 32) : ∀ k, v.ownBlock = some k → Q ≠ k := by
  intro k hk e
  subst e
  unfold Box at hq
  rcases h.2 with ⟨rfl, _⟩ | ⟨g, cap, cur, rfl, hb, hg, _⟩
  · simp [Value.ownBlock] at hk
  · simp [Value.ownBlock] at hk
    subst hk
    rw [hg] at hq
    simp at hq

def unusedI (k : Nat) (l s : Int) (n : Nat) (d : Int) : Bool := ((k : Int) == 0) && ((l == 0) && ((s == 0) && (((n : Int) == 0) && (d == 0))))
def usedI (k : Nat) (l s : Int) (es : List Ext) (d : Int) : Bool := (((k : Int) == 1) || ((k : Int) == 2)) && (wi l 0 100 && (wi s 0 131072 && (decide ((es.length : Int) ≤ 3) && (rightFrom 0 es && wi d 0 511))))

theorem isUnused_at (k n cap : Nat) (l s d : Int) (a : Option Addr) (w : World) :
    Calls Try.prog 40 #[.agg #[.int .u8 (k : Int), .int .i64 l, .int .i64 s, .slice a n cap, .int .i64 d]] w fun r w' => r = .returned (.bool (unusedI k l s n d)) ∧ Below w.heap.size w w' := by
  unfold unusedI
  have hb := fun o => (Below.refl w.heap.size w).alloc (Nat.le_refl _) o
  cases h0 : ((k : Int) == 0)
  · go_enter Try.func40, Try.ntmps40
    go_wp2
    go_ret
    exact ⟨rfl, hb _⟩
  · cases h1 : (l == 0)
    · go_enter Try.func40, Try.ntmps40
      go_wp2
      go_ret
      exact ⟨rfl, hb _⟩
    · cases h2 : (s == 0)
      · go_enter Try.func40, Try.ntmps40
        go_wp2
        go_ret
        exact ⟨rfl, hb _⟩
      · cases h3 : ((n : Int) == 0)
        · go_enter Try.func40, Try.ntmps40
          go_wp2
          go_ret
          exact ⟨rfl, hb _⟩
        · go_enter Try.func40, Try.ntmps40
          go_wp2
          go_ret
          exact ⟨rfl, hb _⟩

set_option maxRecDepth 100000 in
set_option maxHeartbeats 1000000 in
theorem rightUsed_at (k n cap : Nat) (l s d : Int) (a : Option Addr) (es : List Ext) (w : World) (hl : es.length = n) (hn : n ≤ 9223372036854775807) (hw : ∀ e ∈ es, wfE e) (hr : RdE w a es) :
    Calls Try.prog 41 #[.agg #[.int .u8 (k : Int), .int .i64 l, .int .i64 s, .slice a n cap, .int .i64 d]] w fun r w' => r = .returned (.bool (usedI k l s es d)) ∧ Below w.heap.size w w' := by
  unfold usedI
  rw [hl]
  have hb := (Below.refl w.heap.size w).alloc (Nat.le_refl _) (.cells #[.int .u8 (k : Int), .int .i64 l, .int .i64 s, .slice a n cap, .int .i64 d] 32)
  have bx := Box.new w #[.int .u8 (k : Int), .int .i64 l, .int .i64 s, .slice a n cap, .int .i64 d] 32
  have c4 := right_at cap n a es _ hl hn hw (hr.below hb (Nat.le_refl _))
  clear hl
  cases k1 : ((k : Int) == 1)
  · cases k2 : ((k : Int) == 2)
    · go_enter Try.func41, Try.ntmps41
      go_wp2
      go_ret
      exact ⟨rfl, hb⟩
    · cases h1 : wi l 0 100
      · go_enter Try.func41, Try.ntmps41
        go_wp2_with fail
        refine (within_at _ _ _ _).mono ?_
        rintro r w' ⟨rfl, rfl⟩
        rw [h1]
        go_wp2
        go_ret
        exact ⟨rfl, hb⟩
      · cases h2 : wi s 0 131072
        · go_enter Try.func41, Try.ntmps41
          go_wp2_with fail
          refine (within_at _ _ _ _).mono ?_
          rintro r w' ⟨rfl, rfl⟩
          rw [h1]
          go_wp2_with fail
          refine (within_at _ _ _ _).mono ?_
          rintro r w' ⟨rfl, rfl⟩
          rw [h2]
          go_wp2
          go_ret
          exact ⟨rfl, hb⟩
        · by_cases h3 : (n : Int) ≤ 3
          · rw [decide_eq_true h3]
            cases h4 : rightFrom 0 es
            · go_enter Try.func41, Try.ntmps41
              go_wp2_with fail
              refine (within_at _ _ _ _).mono ?_
              rintro r w' ⟨rfl, rfl⟩
              rw [h1]
              go_wp2_with fail
              refine (within_at _ _ _ _).mono ?_
              rintro r w' ⟨rfl, rfl⟩
              rw [h2]
              go_wp2_with fail
              refine c4.mono ?_
              rintro r w1 ⟨rfl, b1⟩
              have B1 := hb.trans (b1.mono hb.size)
              have hc := (bx.below b1).cell 4
              simp only [List.getElem?_toArray, List.getElem?_cons_zero, List.getElem?_cons_succ] at hc
              rw [h4]
              go_wp2
              go_ret
              exact ⟨rfl, B1⟩
            · go_enter Try.func41, Try.ntmps41
              go_wp2_with fail
              refine (within_at _ _ _ _).mono ?_
              rintro r w' ⟨rfl, rfl⟩
              rw [h1]
              go_wp2_with fail
              refine (within_at _ _ _ _).mono ?_
              rintro r w' ⟨rfl, rfl⟩
              rw [h2]
              go_wp2_with fail
              refine c4.mono ?_
              rintro r w1 ⟨rfl, b1⟩
              have B1 := hb.trans (b1.mono hb.size)
              have hc := (bx.below b1).cell 4
              simp only [List.getElem?_toArray, List.getElem?_cons_zero, List.getElem?_cons_succ] at hc
              rw [h4]
              go_wp2_with fail
              refine (within_at _ _ _ _).mono ?_
              rintro r w' ⟨rfl, rfl⟩
              go_wp2
              go_ret
              exact ⟨rfl, B1⟩
          · rw [decide_eq_false h3]
            go_enter Try.func41, Try.ntmps41
            go_wp2_with fail
            refine (within_at _ _ _ _).mono ?_
            rintro r w' ⟨rfl, rfl⟩
            rw [h1]
            go_wp2_with fail
            refine (within_at _ _ _ _).mono ?_
            rintro r w' ⟨rfl, rfl⟩
            rw [h2]
            go_wp2
            go_ret
            exact ⟨rfl, hb⟩
  · cases h1 : wi l 0 100
    · go_enter Try.func41, Try.ntmps41
      go_wp2_with fail
      refine (within_at _ _ _ _).mono ?_
      rintro r w' ⟨rfl, rfl⟩
      rw [h1]
      go_wp2
      go_ret
      exact ⟨rfl, hb⟩
    · cases h2 : wi s 0 131072
      · go_enter Try.func41, Try.ntmps41
        go_wp2_with fail
        refine (within_at _ _ _ _).mono ?_
        rintro r w' ⟨rfl, rfl⟩
        rw [h1]
        go_wp2_with fail
        refine (within_at _ _ _ _).mono ?_
        rintro r w' ⟨rfl, rfl⟩
        rw [h2]
        go_wp2
        go_ret
        exact ⟨rfl, hb⟩
      · by_cases h3 : (n : Int) ≤ 3
        · rw [decide_eq_true h3]
          cases h4 : rightFrom 0 es
          · go_enter Try.func41, Try.ntmps41
            go_wp2_with fail
            refine (within_at _ _ _ _).mono ?_
            rintro r w' ⟨rfl, rfl⟩
            rw [h1]
            go_wp2_with fail
            refine (within_at _ _ _ _).mono ?_
            rintro r w' ⟨rfl, rfl⟩
            rw [h2]
            go_wp2_with fail
            refine c4.mono ?_
            rintro r w1 ⟨rfl, b1⟩
            have B1 := hb.trans (b1.mono hb.size)
            have hc := (bx.below b1).cell 4
            simp only [List.getElem?_toArray, List.getElem?_cons_zero, List.getElem?_cons_succ] at hc
            rw [h4]
            go_wp2
            go_ret
            exact ⟨rfl, B1⟩
          · go_enter Try.func41, Try.ntmps41
            go_wp2_with fail
            refine (within_at _ _ _ _).mono ?_
            rintro r w' ⟨rfl, rfl⟩
            rw [h1]
            go_wp2_with fail
            refine (within_at _ _ _ _).mono ?_
            rintro r w' ⟨rfl, rfl⟩
            rw [h2]
            go_wp2_with fail
            refine c4.mono ?_
            rintro r w1 ⟨rfl, b1⟩
            have B1 := hb.trans (b1.mono hb.size)
            have hc := (bx.below b1).cell 4
            simp only [List.getElem?_toArray, List.getElem?_cons_zero, List.getElem?_cons_succ] at hc
            rw [h4]
            go_wp2_with fail
            refine (within_at _ _ _ _).mono ?_
            rintro r w' ⟨rfl, rfl⟩
            go_wp2
            go_ret
            exact ⟨rfl, B1⟩
        · rw [decide_eq_false h3]
          go_enter Try.func41, Try.ntmps41
          go_wp2_with fail
          refine (within_at _ _ _ _).mono ?_
          rintro r w' ⟨rfl, rfl⟩
          rw [h1]
          go_wp2_with fail
          refine (within_at _ _ _ _).mono ?_
          rintro r w' ⟨rfl, rfl⟩
          rw [h2]
          go_wp2
          go_ret
          exact ⟨rfl, hb⟩

theorem usedI_nat {k : Nat} {l s d : Int} {es : List Ext} (h : usedI k l s es d = true) : (k = 1 ∨ k = 2) ∧ (0 ≤ l ∧ l ≤ 100) ∧ (0 ≤ s ∧ s ≤ 131072) ∧ es.length ≤ 3 ∧ rightFrom 0 es = true ∧ (0 ≤ d ∧ d ≤ 511) := by
  simp only [usedI, wi, Bool.and_eq_true, Bool.or_eq_true, decide_eq_true_eq, beq_iff_eq] at h
  obtain ⟨h1, h2, h3, h4, h5, h6⟩ := h
  exact ⟨by omega, h2, h3, by omega, h5, h6⟩

def headI (k l s : Nat) (es : List Ext) (d : Nat) : List UInt8 := (((((toBE 1 k ++ toBE 1 es.length) ++ toBE 2 l) ++ toBE 4 s) ++ extsB es) ++ noughts (26 - (8 + es.length * 6))) ++ toBE 2 d
theorem headI_length (k l s : Nat) (es : List Ext) (d : Nat) (h : es.length ≤ 3) : (headI k l s es d).length = 28 := by
  simp only [headI, List.length_append, toBE_length, noughts_length, extsB_length]; omega

set_option maxRecDepth 100000 in
set_option maxHeartbeats 1000000 in
theorem inodeHead_at (k l s d n cap : Nat) (a : Option Addr) (es : List Ext) (w : World) (hk : k < 256) (hll : l < 65536) (hss : s < 4294967296) (hdd : d < 65536) (hl : es.length = n) (hn : n ≤ 3) (hw : ∀ e ∈ es, natE e) (hr : RdE w a es) :
    Calls Try.prog 42 #[.agg #[.int .u8 (k : Int), .int .i64 (l : Int), .int .i64 (s : Int), .slice a n cap, .int .i64 (d : Int)]] w fun r w' => ∃ g, r = .returned (.slice (some ⟨g, 0, none⟩) 28 28) ∧ w.heap.size ≤ g ∧ Own w' g (headI k l s es d) ∧ Below w.heap.size w w' := by
  have B0 := (Below.refl w.heap.size w).alloc (Nat.le_refl _) (.cells #[.int .u8 (k : Int), .int .i64 (l : Int), .int .i64 (s : Int), .slice a n cap, .int .i64 (d : Int)] 32)
  have bx := Box.new w #[.int .u8 (k : Int), .int .i64 (l : Int), .int .i64 (s : Int), .slice a n cap, .int .i64 (d : Int)] 32
  have hxl : Hid ((extsB es).length = n * 6) := by rw [← hl]; exact extsB_length es
  obtain ⟨L1, hL1⟩ : ∃ L, L = toBE 1 k := ⟨_, rfl⟩
  obtain ⟨L2, hL2⟩ : ∃ L, L = L1 ++ toBE 1 n := ⟨_, rfl⟩
  obtain ⟨L3, hL3⟩ : ∃ L, L = L2 ++ toBE 2 l := ⟨_, rfl⟩
  obtain ⟨L4, hL4⟩ : ∃ L, L = L3 ++ toBE 4 s := ⟨_, rfl⟩
  obtain ⟨L5, hL5⟩ : ∃ L, L = L4 ++ extsB es := ⟨_, rfl⟩
  obtain ⟨L6, hL6⟩ : ∃ L, L = L5 ++ noughts (26 - (8 + n * 6)) := ⟨_, rfl⟩
  have N1 : Hid (L1.length = 1) := by rw [hL1]; exact toBE_length 1 k
  have N2 : Hid (L2.length = 2) := by rw [hL2, List.length_append, toBE_length, N1.out]; exact rfl
  have N3 : Hid (L3.length = 4) := by rw [hL3, List.length_append, toBE_length, N2.out]; exact rfl
  have N4 : Hid (L4.length = 8) := by rw [hL4, List.length_append, toBE_length, N3.out]; exact rfl
  have N5 : Hid (L5.length = 8 + n * 6) := by rw [hL5, List.length_append, hxl.out, N4.out]; exact rfl
  have N6 : Hid (L6.length = 26) := by rw [hL6, List.length_append, noughts_length, N5.out]; show _ = _; omega
  have E6 : Hid (headI k l s es d = L6 ++ toBE 2 d) := by show _ = _; rw [hL6, hL5, hL4, hL3, hL2, hL1, ← hl]; rfl
  have U1 : Hid _ := hL1
  have U2 : Hid _ := hL2
  have U3 : Hid _ := hL3
  have U4 : Hid _ := hL4
  have U5 : Hid _ := hL5
  have U6 : Hid _ := hL6
  have Hl : Hid _ := hl
  clear hL1 hL2 hL3 hL4 hL5 hL6 hl
  go_enter Try.func42, Try.ntmps42
  go_wp2_with fail
  obtain ⟨W, hW⟩ : ∃ W, W = w.alloc (.cells #[.int .u8 (k : Int), .int .i64 (l : Int), .int .i64 (s : Int), .slice a n cap, .int .i64 (d : Int)] 32) := ⟨_, rfl⟩
  rw [← hW] at bx B0 ⊢
  clear hW
  refine (add8_at W.heap.size _ 0 _ [] k _ W rfl rfl rfl hk (by omega) (Rd.nil _ _)).mono ?_
  rintro r w1 ⟨rfl, o1, b1⟩
  have o1' : Own w1 W.heap.size L1 := by rw [U1.out]; exact o1
  have B1 := B0.trans (b1.mono B0.size)
  have x1 := bx.below b1
  have q0 := x1.cell 0
  have q1 := x1.cell 1
  have q2 := x1.cell 2
  have q3 := x1.cell 3
  have q4 := x1.cell 4
  simp only [List.getElem?_toArray, List.getElem?_cons_zero, List.getElem?_cons_succ] at q0 q1 q2 q3 q4
  have z0 := B0.size
  clear bx B0 b1 o1
  go_wp2_with fail
  refine (add8_at w1.heap.size _ 1 _ L1 n _ w1 (by omega) rfl N1.out (by omega) (by omega) o1'.rd).mono ?_
  rintro r w2 ⟨rfl, o2, b2⟩
  rw [← U2.out] at o2
  have B2 := B1.trans (b2.mono B1.size)
  have x2 := x1.below b2
  clear q0 q1 q2 q3 q4
  have q0 := x2.cell 0
  have q1 := x2.cell 1
  have q2 := x2.cell 2
  have q3 := x2.cell 3
  have q4 := x2.cell 4
  simp only [List.getElem?_toArray, List.getElem?_cons_zero, List.getElem?_cons_succ] at q0 q1 q2 q3 q4
  have z1 := B1.size
  clear x1 B1 b2 o1'
  go_wp2_with fail
  refine (add16_at w2.heap.size _ 2 _ L2 l _ w2 (by omega) rfl N2.out (by omega) (by omega) o2.rd).mono ?_
  rintro r w3 ⟨rfl, o3, b3⟩
  rw [← U3.out] at o3
  have B3 := B2.trans (b3.mono B2.size)
  have x3 := x2.below b3
  clear q0 q1 q2 q3 q4
  have q0 := x3.cell 0
  have q1 := x3.cell 1
  have q2 := x3.cell 2
  have q3 := x3.cell 3
  have q4 := x3.cell 4
  simp only [List.getElem?_toArray, List.getElem?_cons_zero, List.getElem?_cons_succ] at q0 q1 q2 q3 q4
  have z2 := B2.size
  clear x2 B2 b3 o2
  go_wp2_with fail
  refine (add32_at w3.heap.size _ 4 _ L3 s _ w3 (by omega) rfl N3.out (by omega) (by omega) o3.rd).mono ?_
  rintro r w4 ⟨rfl, o4, b4⟩
  rw [← U4.out] at o4
  have B4 := B3.trans (b4.mono B3.size)
  have x4 := x3.below b4
  have l4 := o4.lt
  clear q0 q1 q2 q3 q4
  have q0 := x4.cell 0
  have q1 := x4.cell 1
  have q2 := x4.cell 2
  have q3 := x4.cell 3
  have q4 := x4.cell 4
  simp only [List.getElem?_toArray, List.getElem?_cons_zero, List.getElem?_cons_succ] at q0 q1 q2 q3 q4
  have z3 := B3.size
  clear x3 B3 b4 o3
  go_wp2_with fail
  refine (extentBytes_at cap n a es w4 Hl.out (by omega) hw (hr.below B4 (Nat.le_refl _))).mono ?_
  rintro r w5 ⟨v5, rfl, o5, b5⟩
  obtain ⟨a5, cap5, rfl, _, _, _, r5, n5, _⟩ := owns_parts o5
  have B5 := B4.trans (b5.mono B4.size)
  have x5 := x4.below b5
  have o4b := o4.below b5 l4
  have own4 := o4b.owns z3 N4.out (by omega)
  have z5 := B5.size
  clear q0 q1 q2 q3 q4 x4 B4 b5 o4 o5 o4b
  go_wp2_with (at_builtin; refine wpList_append_bytes rfl _ _ rfl w.heap.size _ 8 _ rfl own4 a5 (n * 6) cap5 (extsB es) rfl hxl.out r5 n5 (by omega) z5 ?_)
  intro v6 w6 o6 g6
  rw [← bcs_append, ← U5.out] at o6
  have B6 := B5.grown g6 z5 (fun k hk => (own4.lt k hk).1)
  have x6 : Box w6 w.heap.size #[.int .u8 (k : Int), .int .i64 (l : Int), .int .i64 (s : Int), .slice a n cap, .int .i64 (d : Int)] 32 := (g6.block _ x5.lt (fun e => own_ne32 own4 x5 _ e.symm rfl)).trans x5
  have q0 := x6.cell 0
  have q1 := x6.cell 1
  have q2 := x6.cell 2
  have q3 := x6.cell 3
  have q4 := x6.cell 4
  simp only [List.getElem?_toArray, List.getElem?_cons_zero, List.getElem?_cons_succ] at q0 q1 q2 q3 q4
  obtain ⟨a6, cap6, rfl, _, _, _, r6, _, _⟩ := owns_parts o6
  clear x5 own4 B5 g6 o6 r5 n5
  go_wp2_with fail
  refine (padded_at w6.heap.size _ (8 + n * 6) 26 _ L5 _ w6 rfl rfl N5.out (by omega) (by omega) r6).mono ?_
  rintro r w7 ⟨rfl, o7, b7⟩
  have o7' : Own w7 w6.heap.size L6 := by rw [U6.out]; exact o7
  have B7 := B6.trans (b7.mono B6.size)
  have x7 := x6.below b7
  clear q0 q1 q2 q3 q4
  have q0 := x7.cell 0
  have q1 := x7.cell 1
  have q2 := x7.cell 2
  have q3 := x7.cell 3
  have q4 := x7.cell 4
  simp only [List.getElem?_toArray, List.getElem?_cons_zero, List.getElem?_cons_succ] at q0 q1 q2 q3 q4
  have z6 := B6.size
  clear x6 B6 b7 o7 r6
  go_wp2_with fail
  refine (add16_at w7.heap.size _ 26 _ L6 d _ w7 (by omega) rfl N6.out (by omega) (by omega) o7'.rd).mono ?_
  rintro r w8 ⟨rfl, o8, b8⟩
  have B8 := B7.trans (b8.mono B7.size)
  have z7 := B7.size
  rw [← E6.out] at o8
  clear q0 q1 q2 q3 q4 x7 B7 b8 o7'
  go_wp2
  go_ret
  exact ⟨w7.heap.size, rfl, z7, o8, B8⟩

def inodeB (k l s : Nat) (es : List Ext) (d : Nat) : List UInt8 := (headI k l s es d ++ noughts 32) ++ toBE 4 (crc 0 (headI k l s es d ++ noughts 32))
theorem inodeB_length (k l s : Nat) (es : List Ext) (d : Nat) (h : es.length ≤ 3) : (inodeB k l s es d).length = 64 := by
  rw [inodeB, List.length_append, List.length_append, headI_length k l s es d h, noughts_length, toBE_length]

def putInode (k : Nat) (l s : Int) (es : List Ext) (d : Int) : Option (List UInt8) :=
  if unusedI k l s es.length d then some (noughts 64) else if usedI k l s es d then some (inodeB k l.toNat s.toNat es d.toNat) else none

set_option maxRecDepth 100000 in
set_option maxHeartbeats 1000000 in
/-- PutInode -/
theorem putInode_at (k n cap : Nat) (l s d : Int) (a : Option Addr) (es : List Ext) (w : World) (hl : es.length = n) (hn : n ≤ 9223372036854775807) (hw : ∀ e ∈ es, wfE e) (hr : RdE w a es) :
    Calls Try.prog 11 #[.agg #[.int .u8 (k : Int), .int .i64 l, .int .i64 s, .slice a n cap, .int .i64 d]] w fun r w' => Puts w w' (putInode k l s es d) r := by
  have B0 := (Below.refl w.heap.size w).alloc (Nat.le_refl _) (.cells #[.int .u8 (k : Int), .int .i64 l, .int .i64 s, .slice a n cap, .int .i64 d] 32)
  have bx := Box.new w #[.int .u8 (k : Int), .int .i64 l, .int .i64 s, .slice a n cap, .int .i64 d] 32
  unfold putInode
  rw [hl]
  cases hu : unusedI k l s n d
  · cases hq : usedI k l s es d
    · have Hl : Hid _ := hl
      clear hl
      go_enter Try.func11, Try.ntmps11
      go_wp2_with fail
      obtain ⟨W, hW⟩ : ∃ W, W = w.alloc (.cells #[.int .u8 (k : Int), .int .i64 l, .int .i64 s, .slice a n cap, .int .i64 d] 32) := ⟨_, rfl⟩
      rw [← hW] at bx B0 ⊢
      clear hW
      refine (isUnused_at k n cap l s d a W).mono ?_
      rintro r w1 ⟨rfl, b1⟩
      rw [hu]
      have B1 := B0.trans (b1.mono B0.size)
      have x1 := bx.below b1
      have q0 := x1.cell 0
      have q1 := x1.cell 1
      have q2 := x1.cell 2
      have q3 := x1.cell 3
      have q4 := x1.cell 4
      simp only [List.getElem?_toArray, List.getElem?_cons_zero, List.getElem?_cons_succ] at q0 q1 q2 q3 q4
      clear b1 B0 bx
      go_wp2_with fail
      refine (rightUsed_at k n cap l s d a es w1 Hl.out hn hw (hr.below B1 (Nat.le_refl _))).mono ?_
      rintro r w2 ⟨rfl, b2⟩
      rw [hq]
      have B2 := B1.trans (b2.mono B1.size)
      clear q0 q1 q2 q3 q4 x1
      go_wp2
      go_ret2
      exact ⟨_, rfl, World.ownsRow_nil _ _ _ _, B2⟩
    · obtain ⟨hk, h1, h2, h3, h4, h5⟩ := usedI_nat hq
      obtain ⟨l, rfl⟩ := Int.eq_ofNat_of_zero_le h1.1
      obtain ⟨s, rfl⟩ := Int.eq_ofNat_of_zero_le h2.1
      obtain ⟨d, rfl⟩ := Int.eq_ofNat_of_zero_le h5.1
      have hnat := natE_of_right es 0 (by omega) h4
      have Hh : Hid ((headI k l s es d).length = 28) := headI_length k l s es d h3
      have Hi : Hid ((inodeB k l s es d).length = 64) := inodeB_length k l s es d h3
      have hn3 : n ≤ 3 := by omega
      have Hl : Hid _ := hl
      clear hl
      go_enter Try.func11, Try.ntmps11
      go_wp2_with fail
      obtain ⟨W, hW⟩ : ∃ W, W = w.alloc (.cells #[.int .u8 (k : Int), .int .i64 (l : Int), .int .i64 (s : Int), .slice a n cap, .int .i64 (d : Int)] 32) := ⟨_, rfl⟩
      rw [← hW] at bx B0 ⊢
      clear hW
      refine (isUnused_at k n cap l s d a W).mono ?_
      rintro r w1 ⟨rfl, b1⟩
      rw [hu]
      have B1 := B0.trans (b1.mono B0.size)
      have x1 := bx.below b1
      have q0 := x1.cell 0
      have q1 := x1.cell 1
      have q2 := x1.cell 2
      have q3 := x1.cell 3
      have q4 := x1.cell 4
      simp only [List.getElem?_toArray, List.getElem?_cons_zero, List.getElem?_cons_succ] at q0 q1 q2 q3 q4
      clear b1 B0 bx
      go_wp2_with fail
      refine (rightUsed_at k n cap l s d a es w1 Hl.out hn hw (hr.below B1 (Nat.le_refl _))).mono ?_
      rintro r w2 ⟨rfl, b2⟩
      rw [hq]
      have B2 := B1.trans (b2.mono B1.size)
      have x2 := x1.below b2
      clear q0 q1 q2 q3 q4
      have q0 := x2.cell 0
      have q1 := x2.cell 1
      have q2 := x2.cell 2
      have q3 := x2.cell 3
      have q4 := x2.cell 4
      simp only [List.getElem?_toArray, List.getElem?_cons_zero, List.getElem?_cons_succ] at q0 q1 q2 q3 q4
      clear x1 B1 b2
      go_wp2_with fail
      refine (inodeHead_at k l s d n cap a es w2 (by omega) (by omega) (by omega) (by omega) Hl.out hn3 hnat (hr.below B2 (Nat.le_refl _))).mono ?_
      rintro r w3 ⟨g, rfl, hg, o3, b3⟩
      have B3 := B2.trans (b3.mono B2.size)
      clear q0 q1 q2 q3 q4 x2 B2 b3
      go_wp2_with fail
      refine (padded_at w3.heap.size _ 28 60 _ (headI k l s es d) _ w3 rfl rfl Hh.out (by omega) (by omega) o3.rd).mono ?_
      rintro r w4 ⟨rfl, o4, b4⟩
      obtain ⟨L, hL⟩ : ∃ L, L = headI k l s es d ++ noughts 32 := ⟨_, rfl⟩
      have o4' : Own w4 w3.heap.size L := by rw [hL]; exact o4
      have NL : Hid (L.length = 60) := by rw [hL, List.length_append, Hh.out, noughts_length]; exact rfl
      have B4 := B3.trans (b4.mono B3.size)
      have HL : Hid _ := hL
      have l4 := o4.lt
      clear o3 B3 b4 o4 hL
      go_wp2_with fail
      refine (crc_at _ 60 _ L w4 NL.out (by omega) o4'.rd).mono ?_
      rintro r w5 ⟨rfl, b5⟩
      have B5 := B4.trans (b5.mono B4.size)
      have o5 := o4'.below b5 l4
      have hcl := crc_lt 0 L
      obtain ⟨C, hC⟩ : ∃ C, C = crc 0 L := ⟨_, rfl⟩
      rw [← hC] at hcl ⊢
      have HC : Hid _ := hC
      clear o4' B4 b5 hC
      go_wp2_with fail
      refine (add32_at w5.heap.size _ 60 _ L C _ w5 rfl rfl NL.out hcl (by omega) o5.rd).mono ?_
      rintro r w6 ⟨rfl, o6, b6⟩
      have B6 := B5.trans (b6.mono B5.size)
      have z5 := B5.size
      have o6' : Own w6 w5.heap.size (inodeB k l s es d) := by unfold inodeB; rw [← HL.out, ← HC.out]; exact o6
      clear o5 B5 b6 o6
      go_wp2
      go_ret2
      refine ⟨_, rfl, ?_, B6⟩
      have h9 := o6'.owns z5 Hi.out (by omega)
      show World.ownsRow _ _ _ _ _ (inodeB k l s es d).length (bcs (inodeB k l s es d))
      rw [Hi.out]
      exact h9
  · obtain ⟨i0, hi, hz0, hz1, hz2⟩ := info_parts info5
    have hmk : ∀ u : World, (Instr.makeSlice 22 (.int .i64 64) (.int .i64 64)).run Try.prog u =
        .ok (.slice (some ⟨u.heap.size, 0, none⟩) 64 64) (u.alloc (.cells (bcs (noughts 64)).toArray 5)) := fun u => by
      have h := run_make (P := Try.prog) u 22 5 i0 (.int .u8 0) Try.underlying22 hi hz0 .i64 .i64 64 64 (by omega) (by omega) (by rw [hz2]; omega) (by omega)
      have e : madeCells #[.int .u8 0] 64 = (bcs (noughts 64)).toArray := made_zero 64
      rw [← e]
      simpa [hz1, Value.cells] using h
    clear hl
    go_enter Try.func11, Try.ntmps11
    go_wp2_with fail
    obtain ⟨W, hW⟩ : ∃ W, W = w.alloc (.cells #[.int .u8 (k : Int), .int .i64 l, .int .i64 s, .slice a n cap, .int .i64 d] 32) := ⟨_, rfl⟩
    rw [← hW] at bx B0 ⊢
    clear hW
    refine (isUnused_at k n cap l s d a W).mono ?_
    rintro r w1 ⟨rfl, b1⟩
    rw [hu]
    have B1 := B0.trans (b1.mono B0.size)
    have z1 := B1.size
    have own : (w1.alloc (.cells (bcs (noughts 64)).toArray 5)).ownsRow w.heap.size 5 1 (.slice (some ⟨w1.heap.size, 0, none⟩) 64 64) 64 (bcs (noughts 64)) := Own.owns (own_lit w1 (noughts 64)) z1 (noughts_length _) (by omega)
    have B2 := B1.alloc z1 (.cells (bcs (noughts 64)).toArray 5)
    clear b1 B0 bx
    generalize hO : (Obj.cells (bcs (noughts 64)).toArray 5) = O at hmk own B2
    go_wp2
    go_ret2
    refine ⟨_, rfl, ?_, B2⟩
    show World.ownsRow _ _ _ _ _ (noughts 64).length (bcs (noughts 64))
    rw [noughts_length]
    exact own
end Go.Proofs.Ytmhplpiglbamcaa
