/-
  GetInode: what an inode's bytes say.
-/
import Derived.Test.YtmhplpiglbamcaaGetNode
namespace Go.Proofs.Ytmhplpiglbamcaa
open Go.RowKit

structure Ino where
  k : Nat
  l : Int
  s : Int
  d : List Ext
  n : Int
def zeroI : Ino := ⟨0, 0, 0, [], 0⟩
def inoV (i : Ino) (v : Value) : Value := .agg #[.int .u8 (i.k : Int), .int .i64 i.l, .int .i64 i.s, v, .int .i64 i.n]
def GetsI (w w' : World) (o : Option Ino) (r : Ending) : Prop := ∃ v, r = .returned (.tuple #[inoV (o.getD zeroI) v, .int .i64 (erG o.isSome)]) ∧ w'.ownsRow w.heap.size 46 3 v (o.getD zeroI).d.length (ecs (o.getD zeroI).d) ∧ Below w.heap.size w w'
def listI (xs : List UInt8) : List Ext := readE xs 8 (num xs 1 1)
def readI (xs : List UInt8) : Ino := ⟨num xs 0 1, (num xs 2 2 : Nat), (num xs 4 4 : Nat), listI xs, (num xs 26 2 : Nat)⟩
def getInode (xs : List UInt8) : Option Ino :=
  if xs.length ≠ 64 then none else if xs.all (· == 0) then some zeroI else
  if usedI (num xs 0 1) (num xs 2 2 : Nat) (num xs 4 4 : Nat) (listI xs) (num xs 26 2 : Nat) && (isThen (xs.take 60) (headI (num xs 0 1) (num xs 2 2) (num xs 4 4) (listI xs) (num xs 26 2)) && decide (num xs 60 4 = crc 0 (xs.take 60))) then some (readI xs) else none

theorem isThen_nil (xs : List UInt8) : isThen xs [] = xs.all (· == 0) := by simp [isThen]

theorem tail_nil (w w' : World) (h : Below w.heap.size w w') (i : Int) (b : Bool) (hi : i = erG b) : ∃ v, Ending.returned (.tuple #[.agg #[.int .u8 0, .int .i64 0, .int .i64 0, .slice none 0 0, .int .i64 0], .int .i64 i]) = .returned (.tuple #[inoV zeroI v, .int .i64 (erG b)]) ∧ w'.ownsRow w.heap.size 46 3 v zeroI.d.length (ecs zeroI.d) ∧ Below w.heap.size w w' :=
  ⟨.slice none 0 0, by rw [hi]; rfl, World.ownsRow_nil _ _ _ _, h⟩

set_option maxRecDepth 100000 in
set_option maxHeartbeats 1000000 in
theorem getInode_off (n cap : Nat) (a : Option Addr) (xs : List UInt8) (w : World) (hn : xs.length = n) (h : n ≠ 64) :
    Calls Try.prog 12 #[.slice a n cap] w fun r w' => GetsI w w' (getInode xs) r := by
  have e : getInode xs = none := by unfold getInode; rw [if_pos (by omega)]
  rw [e]
  unfold GetsI
  clear hn e
  have B0 := (Below.refl w.heap.size w).alloc (Nat.le_refl _) (.cells #[.int .u8 0, .int .i64 0, .int .i64 0, .slice none 0 0, .int .i64 0] 32)
  have xx := Box.new w #[.int .u8 0, .int .i64 0, .int .i64 0, .slice none 0 0, .int .i64 0] 32
  have h4 : ((n : Int) != 64) = true := by simp; omega
  clear h
  clear xx
  go_enter Try.func12, Try.ntmps12
  go_wp2_with fail
  refine bodyPost_ret (v := .tuple #[.agg #[.int .u8 0, .int .i64 0, .int .i64 0, .slice none 0 0, .int .i64 0], .int .i64 30]) (by simp [results, Try.results12, go_sem]) rfl ?_
  exact tail_nil w _ B0 _ false rfl

set_option maxRecDepth 100000 in
set_option maxHeartbeats 1000000 in
theorem getInode_in (b o cap : Nat) (xs : List UInt8) (w : World) (hn : xs.length = 64) (hcap : 64 ≤ cap) (hm : cap ≤ 9223372036854775807) (hr : Rd w (some ⟨b, o, none⟩) xs) :
    Calls Try.prog 12 #[.slice (some ⟨b, o, none⟩) 64 cap] w fun r w' => GetsI w w' (getInode xs) r := by
  have B0 := (Below.refl w.heap.size w).alloc (Nat.le_refl _) (.cells #[.int .u8 0, .int .i64 0, .int .i64 0, .slice none 0 0, .int .i64 0] 32)
  have xx := Box.new w #[.int .u8 0, .int .i64 0, .int .i64 0, .slice none 0 0, .int .i64 0] 32
  have hdl : Hid ((xs.take 60).length = 60) := by show _ = _; simp; omega
  have ht := hr.take 60
  unfold getInode
  rw [if_neg (by omega)]
  have Hn : Hid _ := hn
  clear hn
  cases hz : xs.all (· == 0)
  · have k0 := num_lt xs 0 1
    have k1 := num_lt xs 1 1
    have k2 := num_lt xs 2 2
    have k3 := num_lt xs 4 4
    have k4 := num_lt xs 26 2
    have k5 := num_lt xs 60 4
    have xl := crc_lt 0 (xs.take 60)
    have HI : Hid (readI xs = ⟨num xs 0 1, (num xs 2 2 : Nat), (num xs 4 4 : Nat), readE xs 8 (num xs 1 1), (num xs 26 2 : Nat)⟩) := rfl
    have HL0 : Hid (listI xs = readE xs 8 (num xs 1 1)) := rfl
    have cI : ∀ W : World, Rd W (some ⟨b, o, none⟩) xs → Calls Try.prog 46 #[.slice (some ⟨b, o, none⟩) 64 cap] W fun r w' => ∃ v, r = .returned (.agg #[.int .u8 (num xs 0 1 : Nat), .int .i64 (num xs 2 2 : Nat), .int .i64 (num xs 4 4 : Nat), v, .int .i64 (num xs 26 2 : Nat)]) ∧ w'.ownsRow W.heap.size 46 3 v (num xs 1 1) (ecs (readE xs 8 (num xs 1 1))) ∧ Below W.heap.size W w' := fun W h => readInode_at 64 cap _ xs W Hn.out (by omega) h
    have cS : ∀ W : World, Rd W (some ⟨b, o, none⟩) xs → Calls Try.prog 47 #[.slice (some ⟨b, o, none⟩) 64 cap, .int .i64 60] W fun e w' => ∃ ok, e = .returned (.tuple #[.int .u32 (num xs 60 4 : Nat), .bool ok]) ∧ W = w' := fun W h => u32_o cap 64 _ xs 60 W Hn.out (by omega) h
    have hLn : ∀ e ∈ readE xs 8 (num xs 1 1), natE e := readE_nat xs 8 _
    have hLl : Hid ((readE xs 8 (num xs 1 1)).length = num xs 1 1) := readE_length _ _ _
    generalize num xs 0 1 = K at k0 HI cI ⊢
    generalize num xs 2 2 = A at k2 HI cI ⊢
    generalize num xs 4 4 = S at k3 HI cI ⊢
    generalize num xs 26 2 = D at k4 HI cI ⊢
    generalize num xs 60 4 = M at k5 cS ⊢
    rw [HL0.out]
    generalize num xs 1 1 = C at k1 HI cI hLn hLl HL0 ⊢
    generalize readE xs 8 C = L at HI cI hLn hLl HL0 ⊢
    have hX : Hid (∀ v : Nat, v = crc 0 (xs.take 60) → crc 0 (xs.take 60) = v) := fun v h => h.symm
    obtain ⟨X, hX0⟩ : ∃ X, X = crc 0 (xs.take 60) := ⟨_, rfl⟩
    have HX : Hid (crc 0 (xs.take 60) = X) := hX0.symm
    rw [← hX0] at xl ⊢
    rw [HI.out]
    clear hX hX0 HI HL0
    cases hU : usedI K (A : Nat) (S : Nat) L (D : Nat)
    · go_enter Try.func12, Try.ntmps12
      go_wp2_with fail
      obtain ⟨W, hW⟩ : ∃ W, W = w.alloc (.cells #[.int .u8 0, .int .i64 0, .int .i64 0, .slice none 0 0, .int .i64 0] 32) := ⟨_, rfl⟩
      rw [← hW] at B0 xx ⊢
      clear hW
      have hr0 := hr.below B0 (Nat.le_refl _)
      refine (isThen_at cap 0 64 0 (some ⟨b, o, none⟩) none xs [] W Hn.out rfl (by omega) (by omega) (by omega) (by simp) hr0 (Rd.nil _ _)).mono ?_
      rintro r w' ⟨rfl, rfl⟩
      rw [isThen_nil, hz]
      go_wp2_with fail
      refine (cI W hr0).mono ?_
      rintro r w1 ⟨v1, rfl, o1, b1⟩
      obtain ⟨a1, cap1, rfl, l1, hc1, hx1, r1, n1, _⟩ := ownsE_parts o1
      have B1 := B0.trans (b1.mono B0.size)
      have x1 := xx.below b1
      have x4 := Box.new w1 #[.int .u8 (K : Nat), .int .i64 (A : Nat), .int .i64 (S : Nat), .slice a1 C cap1, .int .i64 (D : Nat)] 32
      have bA := (Below.refl w1.heap.size w1).alloc (Nat.le_refl _) (.cells #[.int .u8 (K : Nat), .int .i64 (A : Nat), .int .i64 (S : Nat), .slice a1 C cap1, .int .i64 (D : Nat)] 32)
      have B2 := B1.trans (bA.mono B1.size)
      have x2 := x1.below bA
      have o2 := owns_below o1 bA
      have hg4 : w.heap.size < w1.heap.size := x1.lt
      have z0 := B0.size
      clear cI hr0 o1 r1 b1 B1 x1 B0 xx l1
      go_wp2_with fail
      obtain ⟨W2, hW⟩ : ∃ W, W = w1.alloc (.cells #[.int .u8 (K : Nat), .int .i64 (A : Nat), .int .i64 (S : Nat), .slice a1 C cap1, .int .i64 (D : Nat)] 32) := ⟨_, rfl⟩
      rw [← hW] at x4 B2 x2 o2 ⊢
      clear bA hW
      have hr2 := hr.below B2 (Nat.le_refl _)
      refine (cS W2 hr2).mono ?_
      rintro r w' ⟨ok2, rfl, rfl⟩
      have q0 := x4.cell 0
      have q1 := x4.cell 1
      have q2 := x4.cell 2
      have q3 := x4.cell 3
      have q4 := x4.cell 4
      simp only [List.getElem?_toArray, List.getElem?_cons_zero, List.getElem?_cons_succ] at q0 q1 q2 q3 q4
      go_wp2_with fail
      obtain ⟨aE, capE, eE, lE, _, _, rE, _, _⟩ := ownsE_parts o2
      obtain ⟨rfl, _, rfl⟩ := Value.slice.inj eE
      have HE : Hid _ := lE
      refine (rightUsed_at K C cap1 (A : Nat) (S : Nat) (D : Nat) a1 L W2 lE (by omega) (natE_wf hLn) rE).mono ?_
      rintro r w3 ⟨rfl, b3⟩
      rw [hU]
      have B3 := B2.trans (b3.mono B2.size)
      have x3 := x2.below b3
      have x5 := x4.below b3
      have o3 := owns_below o2 b3
      have r3 := rE.below b3 (Nat.le_refl _)
      clear q0 q1 q2 q3 q4 x2 x4 o2 rE b3 B2 hr2 lE
      have q0 := x3.cell 0
      have q1 := x3.cell 1
      have q2 := x3.cell 2
      have q3 := x3.cell 3
      have q4 := x3.cell 4
      simp only [List.getElem?_toArray, List.getElem?_cons_zero, List.getElem?_cons_succ] at q0 q1 q2 q3 q4
      have f0 := x3.frozen 0
      have f1 := x3.frozen 1
      have f2 := x3.frozen 2
      have f3 := x3.frozen 3
      have f4 := x3.frozen 4
      go_wp2_with fail
      clear q0 q1 q2 q3 q4 f0 f1 f2 f3 f4
      have y0 := x3.store 0 (.int .u8 0)
      have y1 := y0.store 1 (.int .i64 0)
      have y2 := y1.store 2 (.int .i64 0)
      have y3 := y2.store 3 (.slice none 0 0)
      have y4 := y3.store 4 (.int .i64 0)
      have C1 := (((((B3.setCell (p := ⟨w.heap.size, 0, none⟩) (Nat.le_refl _) (.int .u8 0)).setCell (p := ⟨w.heap.size, 1, none⟩) (Nat.le_refl _) (.int .i64 0)).setCell (p := ⟨w.heap.size, 2, none⟩) (Nat.le_refl _) (.int .i64 0)).setCell (p := ⟨w.heap.size, 3, none⟩) (Nat.le_refl _) (.slice none 0 0)).setCell (p := ⟨w.heap.size, 4, none⟩) (Nat.le_refl _) (.int .i64 0))
      clear y0 y1 y2 y3
      generalize (((((w3.setCell ⟨w.heap.size, 0, none⟩ (.int .u8 0)).setCell ⟨w.heap.size, 1, none⟩ (.int .i64 0)).setCell ⟨w.heap.size, 2, none⟩ (.int .i64 0)).setCell ⟨w.heap.size, 3, none⟩ (.slice none 0 0)).setCell ⟨w.heap.size, 4, none⟩ (.int .i64 0)) = W9 at y4 C1 ⊢
      have q0 := y4.cell 0
      have q1 := y4.cell 1
      have q2 := y4.cell 2
      have q3 := y4.cell 3
      have q4 := y4.cell 4
      simp at q0 q1 q2 q3 q4
      refine bodyPost_ret (v := .tuple #[.agg #[.int .u8 0, .int .i64 0, .int .i64 0, .slice none 0 0, .int .i64 0], .int .i64 30]) (by simp [results, Try.results12, go_sem, q0, q1, q2, q3, q4]) rfl ?_
      exact tail_nil w W9 C1 _ false rfl
    · obtain ⟨_, _, _, hC3', _, _⟩ := usedI_nat hU
      have hC3 : C ≤ 3 := by rw [← hLl.out]; exact hC3'
      have HH : Hid ((headI K A S L D).length = 28) := headI_length K A S L D hC3'
      cases hT : isThen (xs.take 60) (headI K A S L D)
      · go_enter Try.func12, Try.ntmps12
        go_wp2_with fail
        obtain ⟨W, hW⟩ : ∃ W, W = w.alloc (.cells #[.int .u8 0, .int .i64 0, .int .i64 0, .slice none 0 0, .int .i64 0] 32) := ⟨_, rfl⟩
        rw [← hW] at B0 xx ⊢
        clear hW
        have hr0 := hr.below B0 (Nat.le_refl _)
        refine (isThen_at cap 0 64 0 (some ⟨b, o, none⟩) none xs [] W Hn.out rfl (by omega) (by omega) (by omega) (by simp) hr0 (Rd.nil _ _)).mono ?_
        rintro r w' ⟨rfl, rfl⟩
        rw [isThen_nil, hz]
        go_wp2_with fail
        refine (cI W hr0).mono ?_
        rintro r w1 ⟨v1, rfl, o1, b1⟩
        obtain ⟨a1, cap1, rfl, l1, hc1, hx1, r1, n1, _⟩ := ownsE_parts o1
        have B1 := B0.trans (b1.mono B0.size)
        have x1 := xx.below b1
        have x4 := Box.new w1 #[.int .u8 (K : Nat), .int .i64 (A : Nat), .int .i64 (S : Nat), .slice a1 C cap1, .int .i64 (D : Nat)] 32
        have bA := (Below.refl w1.heap.size w1).alloc (Nat.le_refl _) (.cells #[.int .u8 (K : Nat), .int .i64 (A : Nat), .int .i64 (S : Nat), .slice a1 C cap1, .int .i64 (D : Nat)] 32)
        have B2 := B1.trans (bA.mono B1.size)
        have x2 := x1.below bA
        have o2 := owns_below o1 bA
        have hg4 : w.heap.size < w1.heap.size := x1.lt
        have z0 := B0.size
        clear cI hr0 o1 r1 b1 B1 x1 B0 xx l1
        go_wp2_with fail
        obtain ⟨W2, hW⟩ : ∃ W, W = w1.alloc (.cells #[.int .u8 (K : Nat), .int .i64 (A : Nat), .int .i64 (S : Nat), .slice a1 C cap1, .int .i64 (D : Nat)] 32) := ⟨_, rfl⟩
        rw [← hW] at x4 B2 x2 o2 ⊢
        clear bA hW
        have hr2 := hr.below B2 (Nat.le_refl _)
        refine (cS W2 hr2).mono ?_
        rintro r w' ⟨ok2, rfl, rfl⟩
        have q0 := x4.cell 0
        have q1 := x4.cell 1
        have q2 := x4.cell 2
        have q3 := x4.cell 3
        have q4 := x4.cell 4
        simp only [List.getElem?_toArray, List.getElem?_cons_zero, List.getElem?_cons_succ] at q0 q1 q2 q3 q4
        go_wp2_with fail
        obtain ⟨aE, capE, eE, lE, _, _, rE, _, _⟩ := ownsE_parts o2
        obtain ⟨rfl, _, rfl⟩ := Value.slice.inj eE
        have HE : Hid _ := lE
        refine (rightUsed_at K C cap1 (A : Nat) (S : Nat) (D : Nat) a1 L W2 lE (by omega) (natE_wf hLn) rE).mono ?_
        rintro r w3 ⟨rfl, b3⟩
        rw [hU]
        have B3 := B2.trans (b3.mono B2.size)
        have x3 := x2.below b3
        have x5 := x4.below b3
        have o3 := owns_below o2 b3
        have r3 := rE.below b3 (Nat.le_refl _)
        clear q0 q1 q2 q3 q4 x2 x4 o2 rE b3 B2 hr2 lE
        have q0 := x5.cell 0
        have q1 := x5.cell 1
        have q2 := x5.cell 2
        have q3 := x5.cell 3
        have q4 := x5.cell 4
        simp only [List.getElem?_toArray, List.getElem?_cons_zero, List.getElem?_cons_succ] at q0 q1 q2 q3 q4
        go_wp2_with fail
        refine (inodeHead_at K A S D C cap1 a1 L w3 (by omega) (by omega) (by omega) (by omega) HE.out hC3 hLn r3).mono ?_
        rintro r w4 ⟨g, rfl, hg, oh, b4⟩
        have B4 := B3.trans (b4.mono B3.size)
        have x6 := x3.below b4
        have x7 := x5.below b4
        have o4 := owns_below o3 b4
        have ht4 := ht.below B4 (Nat.le_refl _)
        clear q0 q1 q2 q3 q4 x3 x5 o3 r3 b4 B3
        go_wp2_with fail
        refine (isThen_at cap 28 60 28 (some ⟨b, o, none⟩) (some ⟨g, 0, none⟩) (xs.take 60) (headI K A S L D) w4 hdl.out HH.out (by omega) (by omega) (by omega) (by simp) ht4 oh.rd).mono ?_
        rintro r w' ⟨rfl, rfl⟩
        rw [hT]
        clear oh
        have q0 := x6.cell 0
        have q1 := x6.cell 1
        have q2 := x6.cell 2
        have q3 := x6.cell 3
        have q4 := x6.cell 4
        simp only [List.getElem?_toArray, List.getElem?_cons_zero, List.getElem?_cons_succ] at q0 q1 q2 q3 q4
        have f0 := x6.frozen 0
        have f1 := x6.frozen 1
        have f2 := x6.frozen 2
        have f3 := x6.frozen 3
        have f4 := x6.frozen 4
        go_wp2_with fail
        clear q0 q1 q2 q3 q4 f0 f1 f2 f3 f4
        have y0 := x6.store 0 (.int .u8 0)
        have y1 := y0.store 1 (.int .i64 0)
        have y2 := y1.store 2 (.int .i64 0)
        have y3 := y2.store 3 (.slice none 0 0)
        have y4 := y3.store 4 (.int .i64 0)
        have C1 := (((((B4.setCell (p := ⟨w.heap.size, 0, none⟩) (Nat.le_refl _) (.int .u8 0)).setCell (p := ⟨w.heap.size, 1, none⟩) (Nat.le_refl _) (.int .i64 0)).setCell (p := ⟨w.heap.size, 2, none⟩) (Nat.le_refl _) (.int .i64 0)).setCell (p := ⟨w.heap.size, 3, none⟩) (Nat.le_refl _) (.slice none 0 0)).setCell (p := ⟨w.heap.size, 4, none⟩) (Nat.le_refl _) (.int .i64 0))
        clear y0 y1 y2 y3
        generalize (((((w4.setCell ⟨w.heap.size, 0, none⟩ (.int .u8 0)).setCell ⟨w.heap.size, 1, none⟩ (.int .i64 0)).setCell ⟨w.heap.size, 2, none⟩ (.int .i64 0)).setCell ⟨w.heap.size, 3, none⟩ (.slice none 0 0)).setCell ⟨w.heap.size, 4, none⟩ (.int .i64 0)) = W9 at y4 C1 ⊢
        have q0 := y4.cell 0
        have q1 := y4.cell 1
        have q2 := y4.cell 2
        have q3 := y4.cell 3
        have q4 := y4.cell 4
        simp at q0 q1 q2 q3 q4
        refine bodyPost_ret (v := .tuple #[.agg #[.int .u8 0, .int .i64 0, .int .i64 0, .slice none 0 0, .int .i64 0], .int .i64 30]) (by simp [results, Try.results12, go_sem, q0, q1, q2, q3, q4]) rfl ?_
        exact tail_nil w W9 C1 _ false rfl
      · by_cases hq : M = X
        · rw [decide_eq_true hq]
          have hqq : ((M : Int) != (X : Int)) = false := by simp; omega
          go_enter Try.func12, Try.ntmps12
          go_wp2_with fail
          obtain ⟨W, hW⟩ : ∃ W, W = w.alloc (.cells #[.int .u8 0, .int .i64 0, .int .i64 0, .slice none 0 0, .int .i64 0] 32) := ⟨_, rfl⟩
          rw [← hW] at B0 xx ⊢
          clear hW
          have hr0 := hr.below B0 (Nat.le_refl _)
          refine (isThen_at cap 0 64 0 (some ⟨b, o, none⟩) none xs [] W Hn.out rfl (by omega) (by omega) (by omega) (by simp) hr0 (Rd.nil _ _)).mono ?_
          rintro r w' ⟨rfl, rfl⟩
          rw [isThen_nil, hz]
          go_wp2_with fail
          refine (cI W hr0).mono ?_
          rintro r w1 ⟨v1, rfl, o1, b1⟩
          obtain ⟨a1, cap1, rfl, l1, hc1, hx1, r1, n1, _⟩ := ownsE_parts o1
          have B1 := B0.trans (b1.mono B0.size)
          have x1 := xx.below b1
          have x4 := Box.new w1 #[.int .u8 (K : Nat), .int .i64 (A : Nat), .int .i64 (S : Nat), .slice a1 C cap1, .int .i64 (D : Nat)] 32
          have bA := (Below.refl w1.heap.size w1).alloc (Nat.le_refl _) (.cells #[.int .u8 (K : Nat), .int .i64 (A : Nat), .int .i64 (S : Nat), .slice a1 C cap1, .int .i64 (D : Nat)] 32)
          have B2 := B1.trans (bA.mono B1.size)
          have x2 := x1.below bA
          have o2 := owns_below o1 bA
          have hg4 : w.heap.size < w1.heap.size := x1.lt
          have z0 := B0.size
          clear cI hr0 o1 r1 b1 B1 x1 B0 xx l1
          go_wp2_with fail
          obtain ⟨W2, hW⟩ : ∃ W, W = w1.alloc (.cells #[.int .u8 (K : Nat), .int .i64 (A : Nat), .int .i64 (S : Nat), .slice a1 C cap1, .int .i64 (D : Nat)] 32) := ⟨_, rfl⟩
          rw [← hW] at x4 B2 x2 o2 ⊢
          clear bA hW
          have hr2 := hr.below B2 (Nat.le_refl _)
          refine (cS W2 hr2).mono ?_
          rintro r w' ⟨ok2, rfl, rfl⟩
          have q0 := x4.cell 0
          have q1 := x4.cell 1
          have q2 := x4.cell 2
          have q3 := x4.cell 3
          have q4 := x4.cell 4
          simp only [List.getElem?_toArray, List.getElem?_cons_zero, List.getElem?_cons_succ] at q0 q1 q2 q3 q4
          go_wp2_with fail
          obtain ⟨aE, capE, eE, lE, _, _, rE, _, _⟩ := ownsE_parts o2
          obtain ⟨rfl, _, rfl⟩ := Value.slice.inj eE
          have HE : Hid _ := lE
          refine (rightUsed_at K C cap1 (A : Nat) (S : Nat) (D : Nat) a1 L W2 lE (by omega) (natE_wf hLn) rE).mono ?_
          rintro r w3 ⟨rfl, b3⟩
          rw [hU]
          have B3 := B2.trans (b3.mono B2.size)
          have x3 := x2.below b3
          have x5 := x4.below b3
          have o3 := owns_below o2 b3
          have r3 := rE.below b3 (Nat.le_refl _)
          clear q0 q1 q2 q3 q4 x2 x4 o2 rE b3 B2 hr2 lE
          have q0 := x5.cell 0
          have q1 := x5.cell 1
          have q2 := x5.cell 2
          have q3 := x5.cell 3
          have q4 := x5.cell 4
          simp only [List.getElem?_toArray, List.getElem?_cons_zero, List.getElem?_cons_succ] at q0 q1 q2 q3 q4
          go_wp2_with fail
          refine (inodeHead_at K A S D C cap1 a1 L w3 (by omega) (by omega) (by omega) (by omega) HE.out hC3 hLn r3).mono ?_
          rintro r w4 ⟨g, rfl, hg, oh, b4⟩
          have B4 := B3.trans (b4.mono B3.size)
          have x6 := x3.below b4
          have x7 := x5.below b4
          have o4 := owns_below o3 b4
          have ht4 := ht.below B4 (Nat.le_refl _)
          clear q0 q1 q2 q3 q4 x3 x5 o3 r3 b4 B3
          go_wp2_with fail
          refine (isThen_at cap 28 60 28 (some ⟨b, o, none⟩) (some ⟨g, 0, none⟩) (xs.take 60) (headI K A S L D) w4 hdl.out HH.out (by omega) (by omega) (by omega) (by simp) ht4 oh.rd).mono ?_
          rintro r w' ⟨rfl, rfl⟩
          rw [hT]
          clear oh
          go_wp2_with fail
          refine (crc_at cap 60 (some ⟨b, o, none⟩) (xs.take 60) w4 hdl.out (by omega) ht4).mono ?_
          rintro r w5 ⟨rfl, b5⟩
          have B5 := B4.trans (b5.mono B4.size)
          have x8 := x6.below b5
          have x9 := x7.below b5
          have o5 := owns_below o4 b5
          rw [HX.out]
          clear ht4 B4 x6 x7 o4 b5
          have q0 := x8.cell 0
          have q1 := x8.cell 1
          have q2 := x8.cell 2
          have q3 := x8.cell 3
          have q4 := x8.cell 4
          simp only [List.getElem?_toArray, List.getElem?_cons_zero, List.getElem?_cons_succ] at q0 q1 q2 q3 q4
          have f0 := x8.frozen 0
          have f1 := x8.frozen 1
          have f2 := x8.frozen 2
          have f3 := x8.frozen 3
          have f4 := x8.frozen 4
          have p0 := x9.cell 0
          have p1 := x9.cell 1
          have p2 := x9.cell 2
          have p3 := x9.cell 3
          have p4 := x9.cell 4
          simp only [List.getElem?_toArray, List.getElem?_cons_zero, List.getElem?_cons_succ] at p0 p1 p2 p3 p4
          go_wp2_with fail
          clear q0 q1 q2 q3 q4 f0 f1 f2 f3 f4
          clear p0 p1 p2 p3 p4
          have y0 := x8.store 0 (.int .u8 (K : Nat))
          have y1 := y0.store 1 (.int .i64 (A : Nat))
          have y2 := y1.store 2 (.int .i64 (S : Nat))
          have y3 := y2.store 3 (.slice a1 C cap1)
          have y4 := y3.store 4 (.int .i64 (D : Nat))
          have C1 := (((((B5.setCell (p := ⟨w.heap.size, 0, none⟩) (Nat.le_refl _) (.int .u8 (K : Nat))).setCell (p := ⟨w.heap.size, 1, none⟩) (Nat.le_refl _) (.int .i64 (A : Nat))).setCell (p := ⟨w.heap.size, 2, none⟩) (Nat.le_refl _) (.int .i64 (S : Nat))).setCell (p := ⟨w.heap.size, 3, none⟩) (Nat.le_refl _) (.slice a1 C cap1)).setCell (p := ⟨w.heap.size, 4, none⟩) (Nat.le_refl _) (.int .i64 (D : Nat)))
          have tg : ∀ (u : World) (j : Nat) (v : Value) (cs : Array Value), Box u w.heap.size cs 32 → u.ownsRow W.heap.size 46 3 (.slice a1 C cap1) C (ecs L) → (u.setCell ⟨w.heap.size, j, none⟩ v).ownsRow W.heap.size 46 3 (.slice a1 C cap1) C (ecs L) := fun u j v cs hb ho => ho.kept (grown_store u w.heap.size j v) (.inr (own_tag ho hb (by decide)).symm)
          have o6 := tg _ 4 (.int .i64 (D : Nat)) _ y3 (tg _ 3 (.slice a1 C cap1) _ y2 (tg _ 2 (.int .i64 (S : Nat)) _ y1 (tg _ 1 (.int .i64 (A : Nat)) _ y0 (tg _ 0 (.int .u8 (K : Nat)) _ x8 o5))))
          clear tg y0 y1 y2 y3
          generalize (((((w5.setCell ⟨w.heap.size, 0, none⟩ (.int .u8 (K : Nat))).setCell ⟨w.heap.size, 1, none⟩ (.int .i64 (A : Nat))).setCell ⟨w.heap.size, 2, none⟩ (.int .i64 (S : Nat))).setCell ⟨w.heap.size, 3, none⟩ (.slice a1 C cap1)).setCell ⟨w.heap.size, 4, none⟩ (.int .i64 (D : Nat))) = W9 at y4 C1 o6 ⊢
          have q0 := y4.cell 0
          have q1 := y4.cell 1
          have q2 := y4.cell 2
          have q3 := y4.cell 3
          have q4 := y4.cell 4
          simp at q0 q1 q2 q3 q4
          refine bodyPost_ret (v := .tuple #[.agg #[.int .u8 (K : Nat), .int .i64 (A : Nat), .int .i64 (S : Nat), .slice a1 C cap1, .int .i64 (D : Nat)], .int .i64 0]) (by simp [results, Try.results12, go_sem, q0, q1, q2, q3, q4]) rfl ?_
          refine ⟨.slice a1 C cap1, rfl, ?_, C1⟩
          show World.ownsRow _ _ _ _ _ L.length (ecs L)
          rw [HE.out]
          exact ⟨o6.1, by
            rcases o6.2 with h | ⟨g', cap', cur, h1, h2, h3⟩
            · exact .inl h
            · exact .inr ⟨g', cap', cur, h1, Nat.le_trans z0 h2, h3⟩⟩
        · rw [decide_eq_false hq]
          have hqq : ((M : Int) != (X : Int)) = true := by simp; omega
          go_enter Try.func12, Try.ntmps12
          go_wp2_with fail
          obtain ⟨W, hW⟩ : ∃ W, W = w.alloc (.cells #[.int .u8 0, .int .i64 0, .int .i64 0, .slice none 0 0, .int .i64 0] 32) := ⟨_, rfl⟩
          rw [← hW] at B0 xx ⊢
          clear hW
          have hr0 := hr.below B0 (Nat.le_refl _)
          refine (isThen_at cap 0 64 0 (some ⟨b, o, none⟩) none xs [] W Hn.out rfl (by omega) (by omega) (by omega) (by simp) hr0 (Rd.nil _ _)).mono ?_
          rintro r w' ⟨rfl, rfl⟩
          rw [isThen_nil, hz]
          go_wp2_with fail
          refine (cI W hr0).mono ?_
          rintro r w1 ⟨v1, rfl, o1, b1⟩
          obtain ⟨a1, cap1, rfl, l1, hc1, hx1, r1, n1, _⟩ := ownsE_parts o1
          have B1 := B0.trans (b1.mono B0.size)
          have x1 := xx.below b1
          have x4 := Box.new w1 #[.int .u8 (K : Nat), .int .i64 (A : Nat), .int .i64 (S : Nat), .slice a1 C cap1, .int .i64 (D : Nat)] 32
          have bA := (Below.refl w1.heap.size w1).alloc (Nat.le_refl _) (.cells #[.int .u8 (K : Nat), .int .i64 (A : Nat), .int .i64 (S : Nat), .slice a1 C cap1, .int .i64 (D : Nat)] 32)
          have B2 := B1.trans (bA.mono B1.size)
          have x2 := x1.below bA
          have o2 := owns_below o1 bA
          have hg4 : w.heap.size < w1.heap.size := x1.lt
          have z0 := B0.size
          clear cI hr0 o1 r1 b1 B1 x1 B0 xx l1
          go_wp2_with fail
          obtain ⟨W2, hW⟩ : ∃ W, W = w1.alloc (.cells #[.int .u8 (K : Nat), .int .i64 (A : Nat), .int .i64 (S : Nat), .slice a1 C cap1, .int .i64 (D : Nat)] 32) := ⟨_, rfl⟩
          rw [← hW] at x4 B2 x2 o2 ⊢
          clear bA hW
          have hr2 := hr.below B2 (Nat.le_refl _)
          refine (cS W2 hr2).mono ?_
          rintro r w' ⟨ok2, rfl, rfl⟩
          have q0 := x4.cell 0
          have q1 := x4.cell 1
          have q2 := x4.cell 2
          have q3 := x4.cell 3
          have q4 := x4.cell 4
          simp only [List.getElem?_toArray, List.getElem?_cons_zero, List.getElem?_cons_succ] at q0 q1 q2 q3 q4
          go_wp2_with fail
          obtain ⟨aE, capE, eE, lE, _, _, rE, _, _⟩ := ownsE_parts o2
          obtain ⟨rfl, _, rfl⟩ := Value.slice.inj eE
          have HE : Hid _ := lE
          refine (rightUsed_at K C cap1 (A : Nat) (S : Nat) (D : Nat) a1 L W2 lE (by omega) (natE_wf hLn) rE).mono ?_
          rintro r w3 ⟨rfl, b3⟩
          rw [hU]
          have B3 := B2.trans (b3.mono B2.size)
          have x3 := x2.below b3
          have x5 := x4.below b3
          have o3 := owns_below o2 b3
          have r3 := rE.below b3 (Nat.le_refl _)
          clear q0 q1 q2 q3 q4 x2 x4 o2 rE b3 B2 hr2 lE
          have q0 := x5.cell 0
          have q1 := x5.cell 1
          have q2 := x5.cell 2
          have q3 := x5.cell 3
          have q4 := x5.cell 4
          simp only [List.getElem?_toArray, List.getElem?_cons_zero, List.getElem?_cons_succ] at q0 q1 q2 q3 q4
          go_wp2_with fail
          refine (inodeHead_at K A S D C cap1 a1 L w3 (by omega) (by omega) (by omega) (by omega) HE.out hC3 hLn r3).mono ?_
          rintro r w4 ⟨g, rfl, hg, oh, b4⟩
          have B4 := B3.trans (b4.mono B3.size)
          have x6 := x3.below b4
          have x7 := x5.below b4
          have o4 := owns_below o3 b4
          have ht4 := ht.below B4 (Nat.le_refl _)
          clear q0 q1 q2 q3 q4 x3 x5 o3 r3 b4 B3
          go_wp2_with fail
          refine (isThen_at cap 28 60 28 (some ⟨b, o, none⟩) (some ⟨g, 0, none⟩) (xs.take 60) (headI K A S L D) w4 hdl.out HH.out (by omega) (by omega) (by omega) (by simp) ht4 oh.rd).mono ?_
          rintro r w' ⟨rfl, rfl⟩
          rw [hT]
          clear oh
          go_wp2_with fail
          refine (crc_at cap 60 (some ⟨b, o, none⟩) (xs.take 60) w4 hdl.out (by omega) ht4).mono ?_
          rintro r w5 ⟨rfl, b5⟩
          have B5 := B4.trans (b5.mono B4.size)
          have x8 := x6.below b5
          have x9 := x7.below b5
          have o5 := owns_below o4 b5
          rw [HX.out]
          clear ht4 B4 x6 x7 o4 b5
          have q0 := x8.cell 0
          have q1 := x8.cell 1
          have q2 := x8.cell 2
          have q3 := x8.cell 3
          have q4 := x8.cell 4
          simp only [List.getElem?_toArray, List.getElem?_cons_zero, List.getElem?_cons_succ] at q0 q1 q2 q3 q4
          have f0 := x8.frozen 0
          have f1 := x8.frozen 1
          have f2 := x8.frozen 2
          have f3 := x8.frozen 3
          have f4 := x8.frozen 4
          go_wp2_with fail
          clear q0 q1 q2 q3 q4 f0 f1 f2 f3 f4
          have y0 := x8.store 0 (.int .u8 0)
          have y1 := y0.store 1 (.int .i64 0)
          have y2 := y1.store 2 (.int .i64 0)
          have y3 := y2.store 3 (.slice none 0 0)
          have y4 := y3.store 4 (.int .i64 0)
          have C1 := (((((B5.setCell (p := ⟨w.heap.size, 0, none⟩) (Nat.le_refl _) (.int .u8 0)).setCell (p := ⟨w.heap.size, 1, none⟩) (Nat.le_refl _) (.int .i64 0)).setCell (p := ⟨w.heap.size, 2, none⟩) (Nat.le_refl _) (.int .i64 0)).setCell (p := ⟨w.heap.size, 3, none⟩) (Nat.le_refl _) (.slice none 0 0)).setCell (p := ⟨w.heap.size, 4, none⟩) (Nat.le_refl _) (.int .i64 0))
          clear y0 y1 y2 y3
          generalize (((((w5.setCell ⟨w.heap.size, 0, none⟩ (.int .u8 0)).setCell ⟨w.heap.size, 1, none⟩ (.int .i64 0)).setCell ⟨w.heap.size, 2, none⟩ (.int .i64 0)).setCell ⟨w.heap.size, 3, none⟩ (.slice none 0 0)).setCell ⟨w.heap.size, 4, none⟩ (.int .i64 0)) = W9 at y4 C1 ⊢
          have q0 := y4.cell 0
          have q1 := y4.cell 1
          have q2 := y4.cell 2
          have q3 := y4.cell 3
          have q4 := y4.cell 4
          simp at q0 q1 q2 q3 q4
          refine bodyPost_ret (v := .tuple #[.agg #[.int .u8 0, .int .i64 0, .int .i64 0, .slice none 0 0, .int .i64 0], .int .i64 30]) (by simp [results, Try.results12, go_sem, q0, q1, q2, q3, q4]) rfl ?_
          exact tail_nil w W9 C1 _ false rfl
  · go_enter Try.func12, Try.ntmps12
    go_wp2_with fail
    obtain ⟨W, hW⟩ : ∃ W, W = w.alloc (.cells #[.int .u8 0, .int .i64 0, .int .i64 0, .slice none 0 0, .int .i64 0] 32) := ⟨_, rfl⟩
    rw [← hW] at B0 xx ⊢
    clear hW
    have hr0 := hr.below B0 (Nat.le_refl _)
    refine (isThen_at cap 0 64 0 (some ⟨b, o, none⟩) none xs [] W Hn.out rfl (by omega) (by omega) (by omega) (by simp) hr0 (Rd.nil _ _)).mono ?_
    rintro r w' ⟨rfl, rfl⟩
    rw [isThen_nil, hz]
    have q0 := xx.cell 0
    have q1 := xx.cell 1
    have q2 := xx.cell 2
    have q3 := xx.cell 3
    have q4 := xx.cell 4
    simp only [List.getElem?_toArray, List.getElem?_cons_zero, List.getElem?_cons_succ] at q0 q1 q2 q3 q4
    have f0 := xx.frozen 0
    have f1 := xx.frozen 1
    have f2 := xx.frozen 2
    have f3 := xx.frozen 3
    have f4 := xx.frozen 4
    go_wp2_with fail
    clear q0 q1 q2 q3 q4 f0 f1 f2 f3 f4
    have y0 := xx.store 0 (.int .u8 0)
    have y1 := y0.store 1 (.int .i64 0)
    have y2 := y1.store 2 (.int .i64 0)
    have y3 := y2.store 3 (.slice none 0 0)
    have y4 := y3.store 4 (.int .i64 0)
    have C1 := (((((B0.setCell (p := ⟨w.heap.size, 0, none⟩) (Nat.le_refl _) (.int .u8 0)).setCell (p := ⟨w.heap.size, 1, none⟩) (Nat.le_refl _) (.int .i64 0)).setCell (p := ⟨w.heap.size, 2, none⟩) (Nat.le_refl _) (.int .i64 0)).setCell (p := ⟨w.heap.size, 3, none⟩) (Nat.le_refl _) (.slice none 0 0)).setCell (p := ⟨w.heap.size, 4, none⟩) (Nat.le_refl _) (.int .i64 0))
    clear y0 y1 y2 y3
    generalize (((((W.setCell ⟨w.heap.size, 0, none⟩ (.int .u8 0)).setCell ⟨w.heap.size, 1, none⟩ (.int .i64 0)).setCell ⟨w.heap.size, 2, none⟩ (.int .i64 0)).setCell ⟨w.heap.size, 3, none⟩ (.slice none 0 0)).setCell ⟨w.heap.size, 4, none⟩ (.int .i64 0)) = W9 at y4 C1 ⊢
    have q0 := y4.cell 0
    have q1 := y4.cell 1
    have q2 := y4.cell 2
    have q3 := y4.cell 3
    have q4 := y4.cell 4
    simp at q0 q1 q2 q3 q4
    refine bodyPost_ret (v := .tuple #[.agg #[.int .u8 0, .int .i64 0, .int .i64 0, .slice none 0 0, .int .i64 0], .int .i64 0]) (by simp [results, Try.results12, go_sem, q0, q1, q2, q3, q4]) rfl ?_
    exact tail_nil w W9 C1 _ true rfl

/-- GetInode -/
theorem getInode_at (n cap : Nat) (a : Option Addr) (xs : List UInt8) (w : World) (hn : xs.length = n) (hcap : n ≤ cap) (hm : cap ≤ 9223372036854775807) (hr : Rd w a xs) :
    Calls Try.prog 12 #[.slice a n cap] w fun r w' => GetsI w w' (getInode xs) r := by
  by_cases h : n = 64
  · subst h
    obtain ⟨b, o, rfl, _⟩ := hr (by omega)
    exact getInode_in b o cap xs w hn hcap hm hr
  · exact getInode_off n cap a xs w hn h
end Go.Proofs.Ytmhplpiglbamcaa
