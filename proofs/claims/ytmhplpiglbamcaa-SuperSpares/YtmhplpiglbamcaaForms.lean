/-
  One form each: what is put is got back, what is got is put the same, and a change within four bytes is seen.
-/
import Derived.Test.YtmhplpiglbamcaaGetInode
import Derived.Test.YtmhplpiglbamcaaChg
namespace Go.Proofs.Ytmhplpiglbamcaa
open Go.RowKit

theorem all_zero (xs : List UInt8) (h : xs.all (· == 0) = true) : xs = noughts xs.length := by
  apply List.ext_getElem
  · rw [noughts_length]
  · intro i h1 h2
    have := (List.all_eq_true.1 h) xs[i] (List.getElem_mem h1)
    simp only [beq_iff_eq] at this
    rw [this]
    simp [noughts]
theorem noughts_all (n : Nat) : (noughts n).all (· == 0) = true := by simp [noughts]

theorem isThen_true {xs ys : List UInt8} (h : isThen xs ys = true) : ys.length ≤ xs.length ∧ xs = ys ++ noughts (xs.length - ys.length) := by
  simp only [isThen, Bool.and_eq_true, decide_eq_true_eq, beq_iff_eq] at h
  obtain ⟨⟨h1, h2⟩, h3⟩ := h
  refine ⟨h1, ?_⟩
  have h4 := all_zero _ h3
  rw [List.length_drop] at h4
  rw [← h4]
  exact ((List.take_append_drop ys.length xs).symm.trans (by rw [h2]))
theorem isThen_self (ys : List UInt8) (k : Nat) : isThen (ys ++ noughts k) ys = true := by
  simp [isThen, noughts_all]

theorem num_put (pre post : List UInt8) (k v : Nat) (i : Int) (hi : i = (pre.length : Int)) (hv : v < 256 ^ k) : num (pre ++ (toBE k v ++ post)) i k = v := by
  unfold num
  rw [numAt_put pre post k v i hi, Option.getD_some, Nat.mod_eq_of_lt hv]

theorem i64_in (v : Nat) (h : v < 9223372036854775808) : i64 v = (v : Int) := by
  unfold i64 wrap64
  omega

theorem rightS_lt {b e q t : Int} (h : rightS b e q t = true) : ∃ b' e' q' t' : Nat, b = b' ∧ e = e' ∧ q = q' ∧ t = t' ∧ b' < 9223372036854775808 ∧ e' < 9223372036854775808 ∧ q' < 9223372036854775808 ∧ t' < 9223372036854775808 := by
  have := rightS_nat h
  exact ⟨b.toNat, e.toNat, q.toNat, t.toNat, by omega, by omega, by omega, by omega, by omega, by omega, by omega, by omega⟩

/-! ### node -/
theorem extsB_split (es : List Ext) (j : Nat) (h : j < es.length) : extsB es = extsB (es.take j) ++ (extB es[j] ++ extsB (es.drop (j + 1))) := by
  have e : es = es.take j ++ (es[j] :: es.drop (j + 1)) := by rw [← List.drop_eq_getElem_cons h, List.take_append_drop]
  have e2 : extsB es = extsB (es.take j ++ (es[j] :: es.drop (j + 1))) := by rw [← e]
  rw [e2]
  unfold extsB
  rw [List.flatMap_append, List.flatMap_cons]
theorem natE_get {e : Ext} (h : natE e) : ((e.a.toNat : Int) = e.a ∧ e.a.toNat < 256 ^ 2) ∧ ((e.s.toNat : Int) = e.s ∧ e.s.toNat < 256 ^ 2) ∧ ((e.c.toNat : Int) = e.c ∧ e.c.toNat < 256 ^ 2) := by
  obtain ⟨h1, h2, h3⟩ := h
  refine ⟨⟨?_, ?_⟩, ⟨?_, ?_⟩, ⟨?_, ?_⟩⟩ <;> omega
theorem readE_exts (pre post : List UInt8) (es : List Ext) (p : Nat) (hp : pre.length = p) (hn : ∀ e ∈ es, natE e) : readE (pre ++ (extsB es ++ post)) p es.length = es := by
  apply List.ext_getElem
  · rw [readE_length]
  · intro j h1 h2
    have hj : j < es.length := h2
    obtain ⟨⟨a1, a2⟩, ⟨s1, s2⟩, ⟨c1, c2⟩⟩ := natE_get (hn es[j] (List.getElem_mem hj))
    have hl : (extsB (es.take j)).length = j * 6 := by rw [extsB_length, List.length_take]; omega
    obtain ⟨X, hX⟩ : ∃ X, X = extsB (es.drop (j + 1)) ++ post := ⟨_, rfl⟩
    have e : pre ++ (extsB es ++ post) = (pre ++ extsB (es.take j)) ++ (toBE 2 es[j].a.toNat ++ (toBE 2 es[j].s.toNat ++ (toBE 2 es[j].c.toNat ++ X))) := by
      rw [extsB_split es j hj, extB, hX]
      simp only [List.append_assoc]
    have n0 : num (pre ++ (extsB es ++ post)) ((p + 6 * j : Nat) : Int) 2 = es[j].a.toNat := by
      rw [e]
      exact num_put _ _ 2 _ _ (by rw [List.length_append, hl, hp]; omega) a2
    have n1 : num (pre ++ (extsB es ++ post)) ((p + 6 * j + 2 : Nat) : Int) 2 = es[j].s.toNat := by
      rw [e, ← List.append_assoc]
      exact num_put _ _ 2 _ _ (by rw [List.length_append, List.length_append, hl, hp, toBE_length]; omega) s2
    have n2 : num (pre ++ (extsB es ++ post)) ((p + 6 * j + 4 : Nat) : Int) 2 = es[j].c.toNat := by
      rw [e, ← List.append_assoc, ← List.append_assoc]
      exact num_put _ _ 2 _ _ (by rw [List.length_append, List.length_append, List.length_append, hl, hp, toBE_length, toBE_length]; omega) c2
    simp only [readE, List.getElem_map, List.getElem_range]
    rw [n0, n1, n2, a1, s1, c1]

theorem nodeB_eq (es : List Ext) : nodeB es = ([] ++ (toBE 2 es.length ++ (noughts 2 ++ (toBE 4 (crc 0 (bodyN es)) ++ bodyN es)))) := by simp [nodeB]
theorem zero2 : toBE 2 0 = noughts 2 := by decide
theorem nodeB_drop (es : List Ext) : (nodeB es).drop 8 = bodyN es := by
  unfold nodeB
  rw [← List.append_assoc]
  exact List.drop_left' (by simp only [List.length_append, toBE_length, noughts_length])
theorem getNode_put (es : List Ext) (h1 : es.length ≤ 250) (h2 : rightFrom 0 es = true) : getNode (nodeB es) = some es := by
  have hn := natE_of_right es 0 (by omega) h2
  have c0 : num (nodeB es) 0 2 = es.length := by
    rw [nodeB_eq]; exact num_put _ _ 2 _ _ rfl (by omega)
  have c1 : num (nodeB es) 2 2 = 0 := by
    rw [nodeB_eq, ← zero2, List.nil_append]; exact num_put _ _ 2 0 _ (by rw [toBE_length]; rfl) (by decide)
  have c2 : num (nodeB es) 4 4 = crc 0 (bodyN es) := by
    rw [nodeB]; exact num_put _ _ 4 _ _ (by rw [List.length_append, toBE_length, noughts_length]; rfl) (by have := crc_lt 0 (bodyN es); omega)
  have hl : listN (nodeB es) = es := by
    unfold listN
    rw [c0]
    have e : nodeB es = ((toBE 2 es.length ++ noughts 2) ++ toBE 4 (crc 0 (bodyN es))) ++ (extsB es ++ noughts (4088 - es.length * 6)) := by simp only [nodeB, bodyN, List.append_assoc]
    rw [e]
    exact readE_exts _ _ es 8 (by simp only [List.length_append, toBE_length, noughts_length]) hn
  unfold getNode
  rw [hl, c0, c1, c2, nodeB_drop, nodeB_length es h1, h2, decide_eq_true h1]
  have ht : isThen (bodyN es) (extsB es) = true := isThen_self _ _
  rw [ht]
  simp

theorem if_some {α : Type} {c : Bool} {x y : α} (h : (if c then some x else none) = some y) : c = true ∧ x = y := by
  cases c with
  | false => simp at h
  | true => exact ⟨rfl, by simpa using h⟩

theorem head4 (xs : List UInt8) (k n : Nat) (h : k + n ≤ xs.length) : (xs.drop k).take n = toBE n (num xs (k : Int) n) := by
  unfold num
  rw [numAt_some (by omega), Option.getD_some]
  have hl : ((xs.drop k).take n).length = n := by simp; omega
  have := toBE_beNat ((xs.drop k).take n)
  rw [hl] at this
  exact this.symm

theorem getNode_some {xs : List UInt8} {es : List Ext} (h : getNode xs = some es) : (es.length ≤ 250 ∧ rightFrom 0 es = true) ∧ nodeB es = xs := by
  obtain ⟨hc, hx⟩ := if_some h
  simp only [Bool.and_eq_true, decide_eq_true_eq] at hc
  obtain ⟨hl, h250, hz, hr, ht, hs⟩ := hc
  subst hx
  have hle : (listN xs).length = num xs 0 2 := readE_length _ _ _
  refine ⟨⟨by omega, hr⟩, ?_⟩
  obtain ⟨t1, t2⟩ := isThen_true ht
  have hb : xs.drop 8 = bodyN (listN xs) := by
    rw [t2, bodyN]
    congr 2
    rw [List.length_drop, hl, extsB_length]
  have p0 := head4 xs 0 2 (by omega)
  have p1 := head4 xs 2 2 (by omega)
  have p2 := head4 xs 4 4 (by omega)
  have e : xs = (xs.drop 0).take 2 ++ ((xs.drop 2).take 2 ++ ((xs.drop 4).take 4 ++ xs.drop 8)) := by
    have e1 : (xs.drop 4).take 4 ++ xs.drop 8 = xs.drop 4 := by
      have : xs.drop 8 = (xs.drop 4).drop 4 := by rw [List.drop_drop]
      rw [this, List.take_append_drop]
    have e2 : (xs.drop 2).take 2 ++ xs.drop 4 = xs.drop 2 := by
      have : xs.drop 4 = (xs.drop 2).drop 2 := by rw [List.drop_drop]
      rw [this, List.take_append_drop]
    rw [e1, e2, List.drop_zero, List.take_append_drop]
  have hz' : toBE 2 (num xs ((2 : Nat) : Int) 2) = noughts 2 := by
    have : num xs ((2 : Nat) : Int) 2 = 0 := hz
    rw [this, zero2]
  have hs' : num xs ((4 : Nat) : Int) 4 = crc 0 (bodyN (listN xs)) := by rw [← hb]; exact hs
  rw [nodeB, hle]
  conv => rhs; rw [e]
  rw [p0, p1, p2, hz', hs', hb]
  simp only [List.append_assoc]
  rfl

/-! ### inode -/
theorem headI_eq (k l s : Nat) (es : List Ext) (d : Nat) (post : List UInt8) : headI k l s es d ++ post = [] ++ (toBE 1 k ++ (toBE 1 es.length ++ (toBE 2 l ++ (toBE 4 s ++ (extsB es ++ (noughts (26 - (8 + es.length * 6)) ++ (toBE 2 d ++ post))))))) := by
  simp only [headI, List.append_assoc, List.nil_append]
theorem headI_nums (k l s : Nat) (es : List Ext) (d : Nat) (post : List UInt8) (hk : k < 256) (hl : l < 65536) (hs : s < 4294967296) (hd : d < 65536) (h3 : es.length ≤ 3) (hn : ∀ e ∈ es, natE e) :
    num (headI k l s es d ++ post) 0 1 = k ∧ num (headI k l s es d ++ post) 1 1 = es.length ∧ num (headI k l s es d ++ post) 2 2 = l ∧ num (headI k l s es d ++ post) 4 4 = s ∧ num (headI k l s es d ++ post) 26 2 = d ∧ readE (headI k l s es d ++ post) 8 es.length = es := by
  rw [headI_eq]
  refine ⟨?_, ?_, ?_, ?_, ?_, ?_⟩
  · exact num_put _ _ 1 _ _ rfl (by omega)
  · rw [← List.append_assoc]
    exact num_put _ _ 1 _ _ (by simp only [List.length_append, List.length_nil, toBE_length]; rfl) (by omega)
  · rw [← List.append_assoc, ← List.append_assoc]
    exact num_put _ _ 2 _ _ (by simp only [List.length_append, List.length_nil, toBE_length]; rfl) (by omega)
  · rw [← List.append_assoc, ← List.append_assoc, ← List.append_assoc]
    exact num_put _ _ 4 _ _ (by simp only [List.length_append, List.length_nil, toBE_length]; rfl) (by omega)
  · rw [← List.append_assoc, ← List.append_assoc, ← List.append_assoc, ← List.append_assoc, ← List.append_assoc, ← List.append_assoc]
    exact num_put _ _ 2 _ _ (by simp only [List.length_append, List.length_nil, toBE_length, noughts_length, extsB_length]; omega) (by omega)
  · rw [← List.append_assoc, ← List.append_assoc, ← List.append_assoc, ← List.append_assoc]
    exact readE_exts _ _ es 8 (by simp only [List.length_append, List.length_nil, toBE_length]) hn

theorem inodeB_take (k l s : Nat) (es : List Ext) (d : Nat) (h : es.length ≤ 3) : (inodeB k l s es d).take 60 = headI k l s es d ++ noughts 32 := by
  unfold inodeB
  exact List.take_left' (by rw [List.length_append, headI_length k l s es d h, noughts_length])
theorem inodeB_some_zero (k l s : Nat) (es : List Ext) (d : Nat) (hk : k = 1 ∨ k = 2) : (inodeB k l s es d).all (· == 0) = false := by
  have e : inodeB k l s es d = UInt8.ofNat k :: (inodeB k l s es d).drop 1 := by
    unfold inodeB headI
    simp only [List.append_assoc]
    rfl
  rw [e]
  rcases hk with rfl | rfl <;> simp
theorem getInode_put (k : Nat) (l s : Int) (es : List Ext) (d : Int) (h : usedI k l s es d = true) : getInode (inodeB k l.toNat s.toNat es d.toNat) = some ⟨k, l, s, es, d⟩ := by
  obtain ⟨hk, h1, h2, h3, h4, h5⟩ := usedI_nat h
  have hn := natE_of_right es 0 (by omega) h4
  obtain ⟨l, rfl⟩ := Int.eq_ofNat_of_zero_le h1.1
  obtain ⟨s, rfl⟩ := Int.eq_ofNat_of_zero_le h2.1
  obtain ⟨d, rfl⟩ := Int.eq_ofNat_of_zero_le h5.1
  simp only [Int.toNat_natCast]
  have e : inodeB k l s es d = headI k l s es d ++ (noughts 32 ++ toBE 4 (crc 0 (headI k l s es d ++ noughts 32))) := by simp only [inodeB, List.append_assoc]
  obtain ⟨n0, n1, n2, n3, n4, n5⟩ := headI_nums k l s es d (noughts 32 ++ toBE 4 (crc 0 (headI k l s es d ++ noughts 32))) (by omega) (by omega) (by omega) (by omega) h3 hn
  rw [← e] at n0 n1 n2 n3 n4 n5
  have n6 : num (inodeB k l s es d) 60 4 = crc 0 (headI k l s es d ++ noughts 32) := by
    unfold inodeB
    have := num_put (headI k l s es d ++ noughts 32) [] 4 (crc 0 (headI k l s es d ++ noughts 32)) 60 (by rw [List.length_append, headI_length k l s es d h3, noughts_length]; rfl) (by have := crc_lt 0 (headI k l s es d ++ noughts 32); omega)
    rw [List.append_nil] at this
    exact this
  have hL : listI (inodeB k l s es d) = es := by unfold listI; rw [n1, n5]
  unfold getInode readI
  rw [hL, n0, n2, n3, n4, n6, inodeB_take k l s es d h3, inodeB_length k l s es d h3, inodeB_some_zero k l s es d hk, h, isThen_self]
  simp
theorem getInode_zero : getInode (noughts 64) = some zeroI := by
  unfold getInode
  rw [noughts_length, noughts_all]
  rfl
theorem getInode_some {xs : List UInt8} {i : Ino} (h : getInode xs = some i) : putInode i.k i.l i.s i.d i.n = some xs := by
  unfold getInode at h
  by_cases hl : xs.length = 64
  · rw [if_neg (by omega)] at h
    cases hz : xs.all (· == 0)
    · rw [hz] at h
      obtain ⟨hc, hx⟩ := if_some h
      simp only [Bool.and_eq_true, decide_eq_true_eq] at hc
      obtain ⟨hu, ht, hs⟩ := hc
      subst hx
      have hu' : usedI (readI xs).k (readI xs).l (readI xs).s (readI xs).d (readI xs).n = true := hu
      obtain ⟨hk, _⟩ := usedI_nat hu
      have hun : unusedI (readI xs).k (readI xs).l (readI xs).s (readI xs).d.length (readI xs).n = false := by
        have : ((((num xs 0 1 : Nat) : Int) == 0)) = false := by
          have : num xs 0 1 ≠ 0 := by omega
          simp; omega
        simp only [unusedI, readI, this, Bool.false_and]
      unfold putInode
      rw [hun, hu']
      show some _ = some _
      congr 1
      obtain ⟨t1, t2⟩ := isThen_true ht
      obtain ⟨_, _, _, h3, _, _⟩ := usedI_nat hu
      rw [headI_length _ _ _ _ _ h3, List.length_take, hl] at t2
      have p := head4 xs 60 4 (by omega)
      have p' : xs.drop 60 = toBE 4 (crc 0 (xs.take 60)) := by
        have e1 : (xs.drop 60).take 4 = xs.drop 60 := List.take_of_length_le (by simp; omega)
        rw [e1] at p
        rw [p, ← hs]
        rfl
      simp only [readI, Int.toNat_natCast]
      unfold inodeB
      have t3 : xs.take 60 = headI (num xs 0 1) (num xs 2 2) (num xs 4 4) (listI xs) (num xs 26 2) ++ noughts 32 := t2
      rw [← t3, ← p', List.take_append_drop]
    · rw [hz] at h
      have hx : zeroI = i := by simpa using h
      subst hx
      rw [all_zero xs hz, hl]
      rfl
  · rw [if_pos (by omega)] at h
    simp at h

/-! ### what four turned bytes are -/
theorem chg_getD (xs : List UInt8) (p ch : Nat) : ∀ k i, i < k → p + k ≤ xs.length → (chg xs p ch k).getD (p + i) 0 = xs.getD (p + i) 0 ^^^ UInt8.ofNat (ch / 2 ^ (8 * i))
  | 0, _, h, _ => by omega
  | k + 1, i, h, hl => by
    rw [chg]
    by_cases e : i = k
    · subst e
      have hd := chg_drop xs p ch i
      have h0 : (chg xs p ch i).getD (p + i) 0 = xs.getD (p + i) 0 := by
        have := congrArg (fun l => l.getD 0 0) hd
        simpa [List.getD] using this
      rw [h0]
      simp [List.getD, chg_length, show p + i < xs.length by omega]
    · have := chg_getD xs p ch k i (by omega) (by omega)
      rw [← this]
      simp [List.getD, show ¬ (k = i) by omega]
theorem chg_ne (xs : List UInt8) (p ch : Nat) (hl : p + 4 ≤ xs.length) (h0 : 0 < ch) (h4 : ch < 4294967296) : chg xs p ch 4 ≠ xs := by
  intro e
  have hz : ∀ i, i < 4 → ch / 2 ^ (8 * i) % 256 = 0 := by
    intro i hi
    have := chg_getD xs p ch 4 i hi hl
    rw [e] at this
    have h2 : (0 : UInt8) = UInt8.ofNat (ch / 2 ^ (8 * i)) := by
      have h3 := congrArg (fun c => xs.getD (p + i) 0 ^^^ c) this
      simp only [UInt8.xor_self, ← UInt8.xor_assoc] at h3
      simpa using h3
    have h4 := congrArg UInt8.toNat h2
    rw [ofNat_toNat] at h4
    exact h4.symm
  have z0 := hz 0 (by omega)
  have z1 := hz 1 (by omega)
  have z2 := hz 2 (by omega)
  have z3 := hz 3 (by omega)
  simp at z0 z1 z2 z3
  omega
theorem chg_left (A B : List UInt8) (p ch : Nat) : ∀ k, p + k ≤ A.length → chg (A ++ B) p ch k = chg A p ch k ++ B
  | 0, _ => rfl
  | k + 1, h => by
    rw [chg, chg, chg_left A B p ch k (by omega), List.set_append_left _ _ (by rw [chg_length]; omega)]
    congr 2
    simp [List.getD, List.getElem?_append_left (show p + k < (chg A p ch k).length by rw [chg_length]; omega)]
theorem chg_right (A B : List UInt8) (p ch n : Nat) (hn : A.length = n) : ∀ k, chg (A ++ B) (n + p) ch k = A ++ chg B p ch k
  | 0 => rfl
  | k + 1 => by
    rw [chg, chg, chg_right A B p ch n hn k]
    have e : n + p + k = A.length + (p + k) := by omega
    rw [e, List.set_append_right _ _ (by omega)]
    congr 2
    · congr 1
      omega
    · congr 1
      simp [List.getD, List.getElem?_append_right]

theorem toBE_inj {n a b : Nat} (ha : a < 256 ^ n) (hb : b < 256 ^ n) (h : toBE n a = toBE n b) : a = b := by
  have := congrArg beNat h
  rw [beNat_toBE, beNat_toBE, Nat.mod_eq_of_lt ha, Nat.mod_eq_of_lt hb] at this
  exact this

theorem getNode_turned (es : List Ext) (p ch : Nat) (h1 : es.length ≤ 250) (hp : p < 4085) (h0 : 0 < ch) (h4 : ch < 4294967296) : getNode (chg (nodeB es) (8 + p) ch 4) = none := by
  cases h : getNode (chg (nodeB es) (8 + p) ch 4) with
  | none => rfl
  | some fs =>
    exfalso
    obtain ⟨⟨g1, _⟩, g2⟩ := getNode_some h
    have e : nodeB es = ((toBE 2 es.length ++ noughts 2) ++ toBE 4 (crc 0 (bodyN es))) ++ bodyN es := by simp only [nodeB, List.append_assoc]
    have e' : nodeB fs = ((toBE 2 fs.length ++ noughts 2) ++ toBE 4 (crc 0 (bodyN fs))) ++ bodyN fs := by simp only [nodeB, List.append_assoc]
    rw [e, chg_right _ _ p ch 8 (by simp only [List.length_append, toBE_length, noughts_length]), e'] at g2
    have hin := List.append_inj g2 (by simp only [List.length_append, toBE_length, noughts_length])
    have hin2 := List.append_inj' hin.1 (by rw [toBE_length, toBE_length])
    have hc := toBE_inj (by have := crc_lt 0 (bodyN fs); omega) (by have := crc_lt 0 (bodyN es); omega) hin2.2
    rw [hin.2] at hc
    have := chg_seen (bodyN es) p ch 4 (by omega) hc.symm
    exact chg_ne (bodyN es) p ch (by rw [bodyN_length es h1]; omega) h0 h4 this.symm
end Go.Proofs.Ytmhplpiglbamcaa
