/-
  SNum, SPutO, SOth, SDown, SNil, SNw: put together.
-/
import Derived.Test.YtkhejjddmbegaaaGreatG12
import Derived.Deep.CutBlock
import Derived.RangeFuncNested
import Derived.Deep.RegionHeld3
/-
  The chapter's examples: what is told of the law's own disks.
-/
namespace Go.Proofs.YtkhejjddmbegaaaGreat.S
open Go.RowKit
open Go.Proofs.YtkhejjddmbegaaaGreat.Dk (Box)

/-- noughts are no group -/
theorem zero_no {D : Dk.DS} {t E b s : Nat} (hz : rg D t b = List.replicate 4096 0) : ¬ GOk D t E b s := fun h => by
  have hs := gok_s h
  have h1 := gok_marks h 0 (by omega) 0
  rw [Nat.add_zero, hz, sec_zero] at h1
  exact Rc.mark_ne (by omega) (by omega) (by omega) h1.symm
theorem head_no {D : Dk.DS} {t E b s e q : Nat} {is : List (Int × List UInt8)} (hok : Rc.okGroup e q is) (h0 : rg D t b = Rc.headB e q (Rc.entL (Rc.mark e q) is)) (hne : ¬ (e = E ∧ q = s)) : ¬ GOk D t E b s := fun h => by
  obtain ⟨⟨_, h2, h3⟩, _⟩ := h
  have e2 : Rc.saidE (rg D t b) = E := h2
  have e3 : Rc.saidS (rg D t b) = s := h3
  rw [h0, (Rc.put_said hok).1] at e2
  rw [h0, (Rc.put_said hok).2.1] at e3
  exact hne ⟨e2, e3⟩
theorem run_none {D : Dk.DS} {t E s : Nat} {xs : List Gx} (h : ¬ GOk D t E 0 s) (hr : Run D t E 0 s xs) : xs = [] := by
  cases xs with
  | nil => rfl
  | cons x r => exact absurd hr.1.2.2.1 h
/-- nothing is told -/
theorem told_none {w : World} {dg : Nat} {D : Dk.DS} {F : Nat → Prop} (hd : Dk.IsDisk w dg D F) (hnb : D.nb = 64) (hgn : D.gone = false) (hlim : D.uf.length ≤ 1000000) (t E S0 : Nat) (ht : t < 16) (hE : 1 ≤ E ∧ E ≤ 8388608) (hS : 1 ≤ S0 ∧ S0 ≤ 549755813888) (hno : ¬ GOk D t E 0 S0) :
    Calls Tryz.prog 6 #[.pointer (some ⟨dg, 0, none⟩), .agg lay, .agg #[.int .i64 64, .int .i64 (E : Int), .int .i64 (S0 : Int), .int .i64 (t : Int)]] w fun r w' => ∃ a c, r = .returned (.tuple #[.slice a 0 c, .int .i64 (t : Int), .int .i64 0]) ∧ Below w.heap.size w w' := by
  refine (groups_at hd hnb hgn hlim t E S0 ht hE hS).mono ?_
  rintro r w' ⟨xs, a, c, rfl, hr, ho, _, b⟩
  obtain rfl := run_none hno hr
  refine ⟨a, c, ?_, b⟩
  have e : (((t + tot []) % 16 : Nat) : Int) = (t : Int) := by
    have : (t + tot []) % 16 = t := Nat.mod_eq_of_lt ht
    rw [this]
  rw [e]
  rfl
/-- one group is told -/
theorem told_one {w : World} {dg : Nat} {D : Dk.DS} {F : Nat → Prop} (hd : Dk.IsDisk w dg D F) (hnb : D.nb = 64) (hgn : D.gone = false) (hlim : D.uf.length ≤ 1000000) (t E S0 : Nat) (ht : t < 16) (hE : 1 ≤ E ∧ E ≤ 8388608) (hS : 1 ≤ S0 ∧ S0 ≤ 549755813888) (m : Nat) (hg : GOk D t E 0 S0) (hm : cntAt D t 0 = m) (hno : ¬ GOk D t E (0 + (m + 1)) (S0 + 1)) :
    Calls Tryz.prog 6 #[.pointer (some ⟨dg, 0, none⟩), .agg lay, .agg #[.int .i64 64, .int .i64 (E : Int), .int .i64 (S0 : Int), .int .i64 (t : Int)]] w fun r w' => ∃ g c, r = .returned (.tuple #[.slice (some ⟨g, 0, none⟩) 1 c, .int .i64 (((t + (m + 1)) % 16 : Nat) : Int), .int .i64 0]) ∧ w'.cell? ⟨g, 1, none⟩ = some (.int .i64 (S0 : Int)) ∧ (S0 = 1 → GsI w' (some ⟨g, 0, none⟩) (E : Int) [gimgs D t 0]) ∧ Below w.heap.size w w' := by
  refine (groups_at hd hnb hgn hlim t E S0 ht hE hS).mono ?_
  rintro r w' ⟨xs, a, c, rfl, hr, ho, hG, b⟩
  obtain ⟨x, rfl, hx1, hx2, hx3⟩ : ∃ x : Gx, xs = [x] ∧ x.b = 0 ∧ x.s = S0 ∧ x.m = m := by
    cases xs with
    | nil => exact absurd hg hr
    | cons x r =>
      obtain ⟨⟨h1, h2, _, h4⟩, hr'⟩ := hr
      rw [hm] at hr' h4
      cases r with
      | nil => exact ⟨x, rfl, h1, h2, h4⟩
      | cons y _ => exact absurd hr'.1.2.2.1 hno
  obtain ⟨g, ha, _, _, hc⟩ := Rc.owns_cells ho (by simp)
  subst ha
  refine ⟨g, c, ?_, ?_, fun h1 => ?_, b⟩
  · have e : tot [x] = m + 1 := by simp [tot, hx3]
    rw [e]
    rfl
  · rw [hc 1 (by simp)]
    simp [gsC, hx2]
  · subst h1
    have h := gsI_of hr ho hG
    simpa [hx1] using h

/-- the law's first disk -/
theorem ok01 : Rc.okGroup (1 : Nat) (1 : Nat) (im9 0 1) := im9_ok _ _ 0 1 (by decide) (by decide) (by decide)
theorem ok12 : Rc.okGroup (1 : Nat) (2 : Nat) (im9 1 2) := im9_ok _ _ 1 2 (by decide) (by decide) (by decide)
noncomputable def L1 : List (List UInt8) := Rc.putL 1 1 (im9 0 1) ++ Rc.putL 1 2 (im9 1 2)
theorem L1_len : L1.length = 5 := by rw [L1, List.length_append, putL_length', putL_length', im9_length, im9_length]
theorem d1_uf : (st9 1 14 [0, 1] 2).D.dur = Dk.nought (64 * 4096) ∧ (st9 1 14 [0, 1] 2).D.uf = J.wrs 16 14 L1 L1.length := by
  obtain ⟨h1, h2, h3⟩ := st9_uf 1 14 (by decide) [0, 1] 2 (by decide)
  have e : blks 1 1 (iss9 (st9 1 14 [0, 1] 2).gs) = L1 := by
    rw [st14.1]
    show Rc.putL 1 1 (im9 0 1) ++ (Rc.putL 1 2 (im9 1 2) ++ []) = _
    rw [List.append_nil]
    rfl
  rw [e] at h2 h3
  exact ⟨h1, by rw [h3, h2]⟩
/-- a disk whose ring has these blocks from place 14 on, and noughts -/
structure D14 (D : Dk.DS) : Prop where
  on : ∀ i (h : i < L1.length), rg D 14 i = L1[i]
  off : ∀ i, 5 ≤ i → i < 16 → rg D 14 i = List.replicate 4096 0
theorem d1_14 : D14 (st9 1 14 [0, 1] 2).D := by
  obtain ⟨h1, h2⟩ := d1_uf
  have hl := L1_len
  refine ⟨fun i h => rg_in h2 (by omega) i h, fun i h h16 => ?_⟩
  rw [rg_out h2 i (by omega) h16, h1, blk_nought _ _ (by omega)]
theorem rg_14 (D : Dk.DS) (i : Nat) (_h : i < 14) : rg D 0 i = rg D 14 (i + 2) := by
  unfold rg
  congr 2
  omega
theorem L1_first (i : Nat) (h : i < (Rc.putL 1 1 (im9 0 1)).length) (h' : i < L1.length) : L1[i] = (Rc.putL 1 1 (im9 0 1))[i] := Option.some.inj (by
  rw [← List.getElem?_eq_getElem h', ← List.getElem?_eq_getElem h, L1, List.getElem?_append_left h])
theorem L1_second (i : Nat) (h : i < (Rc.putL 1 2 (im9 1 2)).length) (h' : i + 2 < L1.length) : L1[i + 2] = (Rc.putL 1 2 (im9 1 2))[i] := by
  have hl : (Rc.putL 1 1 (im9 0 1)).length = 2 := by rw [putL_length', im9_length]
  exact Option.some.inj (by
    rw [← List.getElem?_eq_getElem h', ← List.getElem?_eq_getElem h, L1, List.getElem?_append_right (by omega), hl, Nat.add_sub_cancel])
section
variable {D : Dk.DS}
theorem D14.second (h : D14 D) : GOk D 0 1 0 2 ∧ cntAt D 0 0 = 2 ∧ ¬ GOk D 0 1 (0 + (2 + 1)) (2 + 1) := by
  have hl := L1_len
  have hp : (Rc.putL 1 2 (im9 1 2)).length = 3 := by rw [putL_length', im9_length]
  obtain ⟨g1, g2, _⟩ := gok_of (D := D) (t := 0) (b := 0) (im9 1 2) ok12 (by rw [im9_length]; decide) (fun i hi => by
    rw [Nat.zero_add, rg_14 D i (by omega), h.on (i + 2) (by omega), L1_second i hi])
  rw [im9_length] at g2
  refine ⟨g1, g2, zero_no ?_⟩
  rw [rg_14 D _ (by decide)]
  exact h.off _ (by decide) (by decide)
theorem D14.head0 (h : D14 D) : rg D 14 0 = Rc.headB 1 1 (Rc.entL (Rc.mark 1 1) (im9 0 1)) := by
  have hl := L1_len
  have hp : (Rc.putL 1 1 (im9 0 1)).length = 2 := by rw [putL_length', im9_length]
  rw [h.on 0 (by omega), L1_first 0 (by omega)]
  rfl
theorem D14.head2 (h : D14 D) : rg D 0 0 = Rc.headB 1 2 (Rc.entL (Rc.mark 1 2) (im9 1 2)) := by
  have hl := L1_len
  have hp : (Rc.putL 1 2 (im9 1 2)).length = 3 := by rw [putL_length', im9_length]
  rw [rg_14 D 0 (by decide), h.on (0 + 2) (by omega), L1_second 0 (by omega)]
  rfl
theorem D14.no1 (h : D14 D) : ¬ GOk D 14 1 0 2 := head_no ok01 h.head0 (by decide)
theorem D14.no2 (h : D14 D) : ¬ GOk D 14 2 0 1 := head_no ok01 h.head0 (by decide)
theorem D14.no3 (h : D14 D) : ¬ GOk D 0 1 0 1 := head_no ok12 h.head2 (by decide)
/-- a byte of block 3 is turned -/
theorem D14.turned (h : D14 D) (n : Nat) (v : UInt8) (hl : (D.stand 3).length = 4096) (hv : (D.stand 3)[512]? ≠ some v) :
    GOk { D with uf := D.uf ++ [(3, (D.stand 3).set 512 v)], n := n } 14 1 0 1 ∧ cntAt { D with uf := D.uf ++ [(3, (D.stand 3).set 512 v)], n := n } 14 0 = 1 ∧ gimgs { D with uf := D.uf ++ [(3, (D.stand 3).set 512 v)], n := n } 14 0 = im9 0 1 ∧ ¬ GOk { D with uf := D.uf ++ [(3, (D.stand 3).set 512 v)], n := n } 14 1 (0 + (1 + 1)) (1 + 1) := by
  have hL := L1_len
  have hp1 : (Rc.putL 1 1 (im9 0 1)).length = 2 := by rw [putL_length', im9_length]
  have hp2 : (Rc.putL 1 2 (im9 1 2)).length = 3 := by rw [putL_length', im9_length]
  have hs : ∀ i, i < 16 → rg { D with uf := D.uf ++ [(3, (D.stand 3).set 512 v)], n := n } 14 i = if i = 3 then (D.stand 3).set 512 v else rg D 14 i := fun i hi => by
    unfold rg
    rw [J.stand_snoc]
    by_cases e : i = 3
    · subst e
      rfl
    · rw [if_neg e, if_neg (by show ¬ 3 = 2 + (14 + i) % 16; omega)]
  obtain ⟨g1, g2, g3⟩ := gok_of (D := { D with uf := D.uf ++ [(3, (D.stand 3).set 512 v)], n := n }) (t := 14) (b := 0) (im9 0 1) ok01 (by rw [im9_length]; decide) (fun i hi => by
    rw [Nat.zero_add, hs i (by omega), if_neg (by omega), h.on i (by omega), L1_first i hi])
  have g4 := gimgs_of (im9 0 1) ok01 g2 g3
  rw [im9_length] at g2
  refine ⟨g1, g2, g4, fun hg => ?_⟩
  have h1 := gok_marks hg 1 (by
    have h := hg.1.1.2.1.2.1
    have : 1 ≤ cntAt { D with uf := D.uf ++ [(3, (D.stand 3).set 512 v)], n := n } 14 (0 + (1 + 1)) := by simpa [cntAt] using h.1
    omega) 1
  rw [show 0 + (1 + 1) + 1 = 3 from rfl, hs 3 (by decide), if_pos rfl] at h1
  have h2 : (Rc.sec (D.stand 3) 1).take 8 = Rc.mark 1 2 := by
    have e : D.stand 3 = (Rc.putL 1 2 (im9 1 2))[1]'(by omega) := by
      have := h.on (1 + 2) (by omega)
      rw [L1_second 1 (by omega)] at this
      exact this
    rw [e]
    exact Rc.put_marks ok12 1 (by omega) 1
  have g : ∀ l : List UInt8, ((Rc.sec l 1).take 8)[0]? = l[512]? := fun l => by
    unfold Rc.sec
    rw [List.getElem?_take, if_pos (by decide), List.getElem?_take, if_pos (by decide), List.getElem?_drop]
  have q1 := g ((D.stand 3).set 512 v)
  have q2 := g (D.stand 3)
  have h1' : (Rc.sec ((D.stand 3).set 512 v) 1).take 8 = Rc.mark 1 2 := h1
  rw [h1'] at q1
  rw [h2] at q2
  rw [q1, List.getElem?_set_self (by omega)] at q2
  exact hv q2.symm
end
theorem new_no (t E s : Nat) : ¬ GOk (Dk.DS.new 64 (Dk.nought (64 * 4096))) t E 0 s := zero_no (by
  show Dk.blk (Dk.nought (64 * 4096)) (2 + (t + 0) % 16) = _
  exact blk_nought _ _ (by omega))
theorem st35 : (st9 3 5 [2, 2, 2, 2] 4).gs = [(3, 2), (3, 2), (3, 2), (3, 2)] ∧ (st9 3 5 [2, 2, 2, 2] 4).U = 16 := by
  have h0 : n9 2 = 3 := by decide
  simp [st9, step9, h0]
theorem xor_one (y : UInt8) : ∃ v : UInt8, bits .xor .u8 (y.toNat : Int) 1 = (v.toNat : Int) ∧ v ≠ y := by
  have hy : y.toNat < 256 := y.toNat_lt
  have hx : y.toNat ^^^ 1 < 2 ^ 8 := Nat.xor_lt_two_pow hy (by decide)
  refine ⟨UInt8.ofNat (y.toNat ^^^ 1), ?_, fun e => ?_⟩
  · rw [show (1 : Int) = ((1 : Nat) : Int) from rfl, Rc.xor_u8 y.toNat 1 hy (by decide), UInt8.toNat_ofNat_of_lt' (by simpa using hx)]
  · have h1 := congrArg UInt8.toNat e
    rw [UInt8.toNat_ofNat_of_lt' (by simpa using hx)] at h1
    have h2 : y.toNat ^^^ (y.toNat ^^^ 1) = 1 := by rw [← Nat.xor_assoc, Nat.xor_self, Nat.zero_xor]
    rw [h1, Nat.xor_self] at h2
    cases h2
end Go.Proofs.YtkhejjddmbegaaaGreat.S

/-
  The document's own Put: its blocks lie in memory of their own.
-/
namespace Go.Proofs.YtkhejjddmbegaaaGreat.Rc
open Go.RowKit

def PutO (w : World) (e s : Int) (is : List (Int × List UInt8)) (n : Nat) (r : Ending) (w' : World) : Prop :=
  (∃ (E S : Nat), e = (E : Int) ∧ s = (S : Int) ∧ okGroup E S is ∧ ∃ gl cl qs, r = .returned (.tuple #[.slice (some ⟨gl, 0, none⟩) (n + 1) cl, .int .i64 0]) ∧ w'.ownsRow w.heap.size 41 1 (.slice (some ⟨gl, 0, none⟩) (n + 1) cl) (n + 1) (lstC qs) ∧ GetJ w.heap.size w' qs ∧ qs.map GG.xs = putL E S is ∧ qs.length = n + 1 ∧ Below w.heap.size w w') ∨
  (¬ okGroup e s is ∧ r = .returned (.tuple #[.slice none 0 0, .int .i64 80]) ∧ Below w.heap.size w w')
set_option maxRecDepth 100000 in
set_option maxHeartbeats 4000000 in
theorem rputG_own (e s : Int) (a : Option Addr) (n cap : Nat) (is : List (Int × List UInt8)) (w : World) (hl : is.length = n) (hI : Imgs w a is) :
    Calls Tryz.prog 40 #[.agg #[.int .i64 e, .int .i64 s, .slice a n cap]] w (PutO w e s is n) := by
  obtain ⟨j0, ji, jz0, jz1, jz2⟩ := info_parts info31
  have x1 := Box.new w #[.int .i64 e, .int .i64 s, .slice a n cap] 40
  have B1 := (Below.refl w.heap.size w).alloc (Nat.le_refl _) (.cells #[.int .i64 e, .int .i64 s, .slice a n cap] 40)
  have cR := rright_at e s a n cap is _ hl (hI.below B1)
  have HL : Hid (is.length = n) := hl
  have HI : Hid (Imgs w a is) := hI
  clear hl hI
  go_enter Tryz.func40, Tryz.ntmps40
  go_wp2_with fail
  refine cR.mono ?_
  rintro r w1 ⟨q, rfl, hq, b1⟩
  clear cR
  replace x1 := x1.below b1
  replace B1 := B1.trans (b1.mono B1.size)
  clear b1
  cases q with
  | false =>
    have hno : Hid (¬ okGroup e s is) := fun h => (by have := hq.2 h; cases this)
    clear hq
    go_wp2_with fail
    go_ret2
    exact .inr ⟨hno.out, rfl, B1⟩
  | true =>
    have hok := hq.1 rfl
    clear hq
    have hst := (okStamp_iff _ _).1 hok.1.1
    obtain ⟨E, rfl⟩ : ∃ E : Nat, e = (E : Int) := ⟨e.toNat, by omega⟩
    obtain ⟨S, rfl⟩ : ∃ S : Nat, s = (S : Int) := ⟨s.toNat, by omega⟩
    have hE : E ≤ 8388608 := by omega
    have hS : S ≤ 549755813888 := by omega
    obtain ⟨h1, h32⟩ := is_length hok
    rw [HL.out] at h1 h32
    have HOK : Hid (okGroup E S is) := hok
    clear hst hok
    have z0 := x1.cell 0
    have z1 := x1.cell 1
    have z2 := x1.cell 2
    have cH := rhead_at E S a n cap is w1 HL.out (HI.out.below B1) HOK.out
    go_wp2_with fail
    refine cH.mono ?_
    rintro r w2 ⟨v2, rfl, own2, b2⟩
    clear cH z0 z1 z2
    obtain ⟨gh, ch, rfl, lgh, rowh⟩ := RowB.owns own2 (by omega)
    have x2 := x1.below b2
    have B2 := B1.trans (b2.mono B1.size)
    have ba := (Below.refl w2.heap.size w2).alloc (Nat.le_refl _) (.cells #[.slice (some ⟨gh, 0, none⟩) 4096 ch] 41)
    have xo := Box.new w2 #[.slice (some ⟨gh, 0, none⟩) 4096 ch] 41
    have x3 := x2.below ba
    have B3 := B2.trans (ba.mono B2.size)
    have own3 : Hid ((w2.alloc (.cells #[.slice (some ⟨gh, 0, none⟩) 4096 ch] 41)).ownsRow w.heap.size 41 1 (.slice (some ⟨w2.heap.size, 0, none⟩) 1 1) (0 + 1) (lstC [⟨0, headB E S (entL (mark E S) is), gh, ch⟩])) := owns_one xo B2.size
    have hd4 : (headB E S (entL (mark E S) is)).length = 4096 := headB_length (bodyB_length _ (entL_len HOK.out) (by rw [entL_length]; exact (is_length HOK.out).2))
    have J3 : Hid (GetJ w.heap.size (w2.alloc (.cells #[.slice (some ⟨gh, 0, none⟩) 4096 ch] 41)) [⟨0, headB E S (entL (mark E S) is), gh, ch⟩]) := ⟨fun p hp => by
      rw [List.mem_singleton.1 hp]
      exact ⟨rowh.same (ba.block _ rowh.lt), Nat.le_trans B1.size lgh, hd4⟩, List.nodup_cons.2 ⟨List.not_mem_nil, List.nodup_nil⟩⟩
    clear x1 x2 B1 B2 own2 xo ba rowh lgh b2 hd4
    go_wp2_with fail
    go_loopw [4, 5] (fun v i u => ∃ (k : Nat) (qs : List GG), k ≤ n ∧ i = .int .i64 (k : Int) ∧ u.ownsRow w.heap.size 41 1 v (k + 1) (lstC qs) ∧ GetJ w.heap.size u qs ∧ qs.map GG.xs = (putL E S is).take (k + 1) ∧ Box u w.heap.size #[.int .i64 (E : Int), .int .i64 (S : Int), .slice a n cap] 40 ∧ Below w.heap.size w u) (fun _ i _ => n - (intOf i).toNat)
    case atStart => exact ⟨0, _, Nat.zero_le _, rfl, own3.out, J3.out, rfl, x3, B3⟩
    case round =>
      clear own3 J3 x3 B3
      obtain ⟨W, rfl⟩ : ∃ W, W = wr := ⟨_, rfl⟩
      obtain ⟨k, qs, hk, rfl, own, hJ, hqs, x1, B1⟩ := hrel
      obtain ⟨av, cv, rfl⟩ := owns_shape own
      have HQ : Hid (qs.map GG.xs = (putL E S is).take (k + 1)) := hqs
      have HJ : Hid (GetJ w.heap.size W qs) := hJ
      have HO : Hid (W.ownsRow w.heap.size 41 1 (.slice av (k + 1) cv) (k + 1) (lstC qs)) := own
      have HX : Hid (Box W w.heap.size #[.int .i64 (E : Int), .int .i64 (S : Int), .slice a n cap] 40) := x1
      clear hqs hJ own
      have c2 := x1.cell 2
      by_cases hlt : k < n
      · have k1 : k < is.length := by rw [HL.out]; exact hlt
        obtain ⟨b, o, rfl, hc⟩ := HI.out (by omega)
        obtain ⟨g0, x, cx, g1, g2, g3, g4, g5⟩ := hc k k1
        have lb : b < w.heap.size := block_lt_of_cell g1
        obtain ⟨_, _, q4⟩ := ok_at HOK.out k k1
        have hstep : Hid ((putL E S is).take (k + 1 + 1) = (putL E S is).take (k + 1) ++ [stB (mark E S) (is[k]'k1).2]) := putL_take E S is k k1
        generalize (is[k]'k1) = X at g0 g1 g2 g5 q4 hstep
        obtain ⟨bx, xs⟩ := X
        dsimp only at g1 g2 g5 q4 hstep
        rw [q4] at g1 g2
        rw [← B1.cell (p := ⟨b, o + k * 2 + 1, none⟩) lb] at g1
        have cC := copyBytes_at cx 4096 x xs W q4 (by omega) (g5.below B1 (Nat.le_refl _)) g4
        have HX4 : Hid (xs.length = 4096) := q4
        clear hc g0 g2 g3 g4 g5 q4
        go_wp2_with fail
        refine cC.mono ?_
        rintro r w5 ⟨v5, rfl, own5, b5⟩
        clear cC g1 c2
        obtain ⟨gx, cp, rfl, lgx, hrow⟩ := RowB.owns own5 (by omega)
        go_wp2_with fail
        go_loopw [7] (fun i u => ∃ (t : Nat) (Y : List UInt8), t ≤ 4096 ∧ i = .int .i64 (t : Int) ∧ StK (mark E S) xs t Y ∧ RowB u gx cp Y ∧ Below W.heap.size W u) (fun i _ => 4096 - (intOf i).toNat)
        case atStart => exact ⟨0, xs, by omega, rfl, StK.start HX4.out, hrow, b5⟩
        case round =>
          clear hrow b5 own5
          obtain ⟨t, Y, ht, rfl, hY, hrow, bB⟩ := hrel
          by_cases htl : t < 4096
          · have hti : (t : Int) < 4096 := by omega
            by_cases h8 : t % 512 < 8
            · obtain ⟨j, hj⟩ : ∃ j : Nat, (t : Int) % 512 = (j : Int) := ⟨t % 512, by omega⟩
              have hjt : Hid (j = t % 512) := by show j = t % 512; omega
              have hj8 : (j : Int) < 8 := by omega
              have x2 := HX.out.below bB
              have z0 := x2.cell 0
              have z1 := x2.cell 1
              have z2 := x2.cell 2
              have cS := rstamp_at E S (.slice (some ⟨b, o, none⟩) n cap) wr hE hS
              clear h8
              go_wp2_with fail
              refine cS.mono ?_
              rintro r w6 ⟨gs, cs, rfl, lgs, rows, b6⟩
              clear cS z0 z1 z2
              have hm8 := mark_length E S
              obtain ⟨cj, _⟩ := rows.cellAt (j := j) (by omega)
              have row6 := hrow.same (b6.block _ hrow.lt)
              obtain ⟨ct, ft⟩ := row6.cellAt (j := t) (by rw [hY.len]; exact htl)
              have B6 := bB.trans (b6.mono bB.size)
              have hv : Hid ((mark E S)[t % 512]? = some ((mark E S)[j]'(by omega))) := by
                show _ = _
                rw [← hjt.out]
                exact List.getElem?_eq_getElem (by omega)
              generalize ((mark E S)[j]'(by omega)) = mv at cj hv
              have hcs : 8 ≤ cs := by
                obtain ⟨cur, _, h1, _⟩ := rows
                rw [hm8] at h1
                exact h1
              have row7 : Hid (RowB (w6.setCell ⟨gx, t, none⟩ (.int .u8 (mv.toNat : Int))) gx cp (Y.set t mv)) := row6.byte t (by rw [hY.len]; exact htl) mv
              have HY : Hid (StK (mark E S) xs (t + 1) (Y.set t mv)) := hY.put htl (by have := hjt.out; omega) mv hv.out
              have B7 : Hid (Below W.heap.size W (w6.setCell ⟨gx, t, none⟩ (.int .u8 (mv.toNat : Int)))) := B6.setCell (p := ⟨gx, t, none⟩) lgx _
              generalize ((Y[t]'(by rw [hY.len]; exact htl)).toNat : Int) = cz at ct
              have hj0 : (0 : Int) ≤ (j : Int) := by omega
              clear hrow row6 hY bB b6 B6 rows x2 lgs hm8
              go_wp2_with fail
              go_roundw
              case rel => exact ⟨t + 1, _, by omega, by push_cast; rfl, HY.out, row7.out, B7.out⟩
              case measure => simp [intOf]; omega
            · have hi8 : ¬ (t : Int) % 512 < 8 := by omega
              have HY : Hid (StK (mark E S) xs (t + 1) Y) := hY.skip h8
              clear h8 hY
              go_wp2_with fail
              go_roundw
              case rel => exact ⟨t + 1, Y, by omega, by push_cast; rfl, HY.out, hrow, bB⟩
              case measure => simp [intOf]; omega
          · have ht2 : t = 4096 := by omega
            rw [ht2] at hY ⊢
            clear ht2 htl ht
            have hYe := hY.done HX4.out (mark_length _ _)
            have hY4 := hY.len
            rw [hYe] at hrow hY4
            clear hYe hY
            obtain ⟨st, hst⟩ : ∃ st, st = stB (mark E S) xs := ⟨_, rfl⟩
            rw [← hst] at hrow hY4 hstep
            clear hst
            have J2 : GetJ w.heap.size wr (qs ++ [⟨0, st, gx, cp⟩]) := HJ.out.snoc bB ⟨0, st, gx, cp⟩ hrow lgx hY4 B1.size
            have own1 := owns_below HO.out bB
            have x2 := HX.out.below bB
            have B2 := B1.trans (bB.mono B1.size)
            have al := (Below.refl wr.heap.size wr).alloc (Nat.le_refl _) (.cells #[.slice (some ⟨gx, 0, none⟩) 4096 cp] 41)
            have bN := Box.new wr #[.slice (some ⟨gx, 0, none⟩) 4096 cp] 41
            replace own1 := owns_below own1 al
            replace J2 := J2.below al
            replace x2 := x2.below al
            replace B2 := B2.trans (al.mono B2.size)
            have hcN : ∀ j u, ([.slice (some ⟨gx, 0, none⟩) 4096 cp] : List Value)[j]? = some u → (wr.alloc (.cells #[.slice (some ⟨gx, 0, none⟩) 4096 cp] 41)).cell? ((⟨wr.heap.size, 0, none⟩ : Addr).add j) = some u := fun j u hj => by
              rw [Addr.add_lit, Nat.zero_add, bN.cell j]
              simpa using hj
            clear hrow bB HJ HO HX
            go_wp2_with (at_builtin; refine wpList_append_own _ rfl _ _ 52 rfl w.heap.size 41 j0 (.slice none 0 0) 1 24 Tryz.underlying52 ji jz0 jz1 jz2 rfl (by decide) _ (k + 1) _ rfl own1 ⟨wr.heap.size, 0, none⟩ 1 1 [.slice (some ⟨gx, 0, none⟩) 4096 cp] rfl rfl hcN ?c2 ?c3 ?c4 B2.size ?_)
            case c2 => intro u hu; simp at hu; subst hu; rfl
            case c3 => unfold maxLen; omega
            case c4 => omega
            intro v' w4 own4 hg4 _
            have J4 := J2.grown own1 (by decide) hg4
            have B4 := B2.grown hg4 B2.size (fun j e => (owns_block own1 j e).1)
            have x4 : Box w4 w.heap.size #[.int .i64 (E : Int), .int .i64 (S : Int), .slice (some ⟨b, o, none⟩) n cap] 40 := (hg4.block _ x2.lt (fun e => by
              obtain ⟨_, cur, hb⟩ := owns_block own1 _ e.symm
              exact Box.ne hb x2 (by decide) rfl)).trans x2
            have own5 : w4.ownsRow w.heap.size 41 1 v' (k + 1 + 1) (lstC (qs ++ [⟨0, st, gx, cp⟩])) := by
              have e : lstC (qs ++ [⟨0, st, gx, cp⟩]) = lstC qs ++ [.slice (some ⟨gx, 0, none⟩) 4096 cp] := by simp [lstC]
              rw [e]
              exact own4
            clear own1 J2 B2 bN al hcN hg4 own4 x2
            go_wp2_with fail
            go_roundw
            case rel => exact ⟨k + 1, _, by omega, by push_cast; rfl, own5, J4, by rw [List.map_append, HQ.out, hstep.out]; rfl, x4, B4⟩
            case measure => simp [intOf]; omega
      · have hke : k = n := by omega
        have hql : qs.length = k + 1 := by
          have := congrArg List.length HQ.out
          rw [List.length_map, List.length_take, putL_length, HL.out] at this
          omega
        have hL : qs.map GG.xs = putL E S is := by rw [HQ.out, List.take_of_length_le (by rw [putL_length, HL.out]; omega)]
        have hO := HO.out
        have hJ := HJ.out
        have HLL : Hid (qs.map GG.xs = putL E S is) := hL
        clear hL
        obtain ⟨gv, hgv, _⟩ := owns_cells HO.out (by omega)
        subst hgv
        rw [hke] at hO hql ⊢
        have HQ2 : Hid (qs.length = n + 1) := hql
        clear hke hlt hk hql
        go_wp2_with fail
        go_ret2
        exact .inl ⟨E, S, rfl, rfl, HOK.out, gv, cv, qs, rfl, hO, hJ, HLL.out, HQ2.out, B1⟩
end Go.Proofs.YtkhejjddmbegaaaGreat.Rc

/-
  The law's others: a group of a greater number than is asked for, and one that would go round onto itself, are none.
-/
namespace Go.Proofs.YtkhejjddmbegaaaGreat.S
open Go.RowKit
open Go.Proofs.YtkhejjddmbegaaaGreat.Dk (Box)

theorem write_calm2 {D : Dk.DS} (hc : J.Calm D) (n : Nat) (hn : n < D.nb) (b : List UInt8) (hb : b.length = 4096) : D.write (n : Int) b = { D with uf := D.uf ++ [(n, b)], n := D.n + 1 } ∧ D.writeE (n : Int) b = 0 := by
  have hh : D.has (n : Int) = true := by simp [Dk.DS.has]; omega
  unfold Dk.DS.write Dk.DS.writeE
  rw [hh, hc.operE, hc.oper]
  simp [hb]
/-- a disk, and what it may not touch: what lies between uP and uL -/
structure KO (w uP uL : World) (dx : Nat) (D : Dk.DS) (u : World) : Prop where
  dsk : ∃ F, Dk.IsDisk u dx D F ∧ ∀ i, F i → (w.heap.size ≤ i ∧ i < uP.heap.size) ∨ uL.heap.size ≤ i
  keep : ∀ i, uP.heap.size ≤ i → i < uL.heap.size → u.heap[i]? = uL.heap[i]?
  bel : Below w.heap.size w u
  sz : w.heap.size ≤ uL.heap.size
  size : uL.heap.size ≤ u.heap.size
theorem KO.write {w uP uL u : World} {dx : Nat} {D : Dk.DS} (h : KO w uP uL dx D u) (hc : J.Calm D) (hn : D.nb = 64) (hlim : D.uf.length ≤ 1000 ∧ D.n ≤ 1000) (p g cap : Nat) (hp : p < 64) (xs : List UInt8) (hb : xs.length = 4096) (hr : Dk.Rd u (some ⟨g, 0, none⟩) xs) (hg : uP.heap.size ≤ g ∧ g < uL.heap.size) :
    Calls Tryz.prog 10 #[.pointer (some ⟨dx, 0, none⟩), .int .i64 (p : Int), .slice (some ⟨g, 0, none⟩) 4096 cap] u fun e w' => e = .returned (.int .i64 0) ∧ KO w uP uL dx { D with uf := D.uf ++ [(p, xs)], n := D.n + 1 } w' := by
  obtain ⟨⟨F, hd, hF⟩, h2, h3, h4, h5⟩ := h
  obtain ⟨e1, e2⟩ := write_calm2 hc p (by omega) xs hb
  refine (Dk.write_at hd (p : Int) (some ⟨g, 0, none⟩) 4096 cap xs hb ⟨by omega, by omega⟩ hr (fun ad e => ?_)).mono ?_
  · cases e
    exact fun hf => by have h7 := hF g hf; omega
  rintro r w' ⟨rfl, ⟨F', hd', hF'⟩, hu⟩
  rw [e1] at hd'
  rw [e2]
  refine ⟨rfl, ⟨F', hd', fun i hi => ?_⟩, fun i h6 h7 => (hu.block i (by omega) (fun hf => by have := hF i hf; omega)).trans (h2 i h6 h7), ?_, h4, Nat.le_trans h5 hu.size⟩
  · rcases hF' i hi with h | h
    · exact hF i h
    · exact .inr (by omega)
  · exact h3.trans (hu.below (fun i hi => by have := hF i hi; omega) h3.size)

theorem ok316 : Rc.okGroup (1 : Nat) (1 : Nat) (im9 3 16) := im9_ok _ _ 3 16 (by decide) (by decide) (by decide)
/-- a group that is longer than the ring is none -/
theorem long_no (n : Nat) : ¬ GOk (J.grow (Dk.DS.new 64 (Dk.nought (64 * 4096))) 16 0 (Rc.putL 1 1 (im9 3 16)) 16) 0 1 0 n := fun h => by
  have h0 : rg (J.grow (Dk.DS.new 64 (Dk.nought (64 * 4096))) 16 0 (Rc.putL 1 1 (im9 3 16)) 16) 0 0 = Rc.headB 1 1 (Rc.entL (Rc.mark 1 1) (im9 3 16)) := J.grow_in _ 0 (Rc.putL 1 1 (im9 3 16)) 0 16 (by decide) (by decide)
  have hc : cntAt (J.grow (Dk.DS.new 64 (Dk.nought (64 * 4096))) 16 0 (Rc.putL 1 1 (im9 3 16)) 16) 0 0 = 16 := by
    show (Rc.saidEs (rg _ 0 0)).length = 16
    rw [h0, (Rc.put_said ok316).2.2, Rc.entL_length, im9_length]
  have := h.2.1
  rw [hc] at this
  omega

set_option maxRecDepth 100000 in
set_option maxHeartbeats 4000000 in
theorem others_at (w : World) : Calls Tryz.prog 14 #[] w fun r w' => r = .returned (.bool true) ∧ Below w.heap.size w w' := by
  have al := (Below.refl w.heap.size w).alloc (Nat.le_refl _) (.cells #[.int .i64 0, .int .i64 1] 3)
  have cW := written_at (w.alloc (.cells #[.int .i64 0, .int .i64 1] 3)) 1 14 (some ⟨w.heap.size, 0, none⟩) 2 2 [0, 1] rfl (rdI_new w [0, 1]) (by decide) (by decide)
  go_enter Tryz.func14, Tryz.ntmps14
  go_wp2_with fail
  refine Calls.mono cW ?_
  rintro r u ⟨g, dg, v, qs, rfl, hS⟩
  rw [show min 2 12 = 2 from rfl] at hS
  obtain ⟨av, cv, rfl⟩ := Rc.owns_shape hS.row
  have B1 := al.trans (hS.bel.mono al.size)
  have HS : Hid (Sw (w.alloc (.cells #[.int .i64 0, .int .i64 1] 3)) g dg 1 14 (st9 1 14 [0, 1] 2) (.slice av qs.length cv) qs u) := hS
  clear hS al cW
  have L0 : Hid (∀ u, Calls Tryz.prog 7 #[] u fun r w' => r = .returned (.agg #[.int .i64 64, .int .i64 2, .int .i64 16, .int .i64 18, .int .i64 19, .int .i64 4, .int .i64 23]) ∧ Below u.heap.size u w') := fun u => layout64_at u
  go_wp2_with fail
  refine Calls.mono (L0.out _) ?_
  rintro r u1 ⟨rfl, b1⟩
  obtain ⟨F1, hd1, _⟩ := (HS.out.below b1).disk
  obtain ⟨k1, k2, k3, _⟩ := ok9 1 14 [0, 1] 2 (by decide)
  have cG := told_none hd1 k2 k1.1 (by omega) 0 1 1 (by decide) (by decide) (by decide) d1_14.no3
  unfold lay at cG
  have B2 := B1.trans (b1.mono B1.size)
  clear HS b1 hd1 k1 k2 k3 B1
  go_wp2_with fail
  refine Calls.mono cG ?_
  rintro r u2 ⟨a2, c2, rfl, b2⟩
  have B3 := B2.trans (b2.mono B2.size)
  clear cG b2 B2
  go_wp2_with fail
  refine Calls.mono (Dk.new_at 64 u2 (by decide) (by decide)) ?_
  rintro r u3 ⟨dx, rfl, F, hdx, hFx, b3⟩
  go_wp2_with fail
  refine Calls.mono (images9_imf u3 16 3 (by decide)) ?_
  rintro r u4 ⟨a4, c4, rfl, hI, b4⟩
  have hIm := (hI (fun _ => False) (fun _ h => h.elim)).imgs
  have cP := Rc.rputG_own 1 1 a4 16 c4 (im9 3 16) u4 (im9_length 3 16) hIm
  clear hI
  go_wp2_with fail
  refine Calls.mono cP ?_
  rintro r u5 (⟨E, S, hE, hSq, _, gl, cl, qs5, rfl, ho5, hj5, hq5, hl5, b5⟩ | ⟨hno, _⟩)
  rotate_left
  · exact absurd ok316 hno
  obtain rfl : E = 1 := by omega
  obtain rfl : S = 1 := by omega
  have b34 := b3.trans (b4.mono b3.size)
  have b345 : Below u2.heap.size u2 u5 := b34.trans (b5.mono b34.size)
  have hK0 : Hid (KO w u4 u5 dx (J.grow (Dk.DS.new 64 (Dk.nought (64 * 4096))) 16 0 (Rc.putL 1 1 (im9 3 16)) 0) u5) := by
    rw [J.grow_zero]
    obtain ⟨gd, cd, vu, ps, hl⟩ := hdx
    have z2 := B3.size
    have z5 := b345.size
    exact ⟨⟨F, ⟨gd, cd, vu, ps, hl.kept (fun i hi => (b5.block i (Nat.lt_of_lt_of_le (hl.flt i hi) b4.size)).trans (b4.block i (hl.flt i hi))) (Nat.le_trans b4.size b5.size)⟩, fun i hi => .inl ⟨by have := hFx i hi; omega, Nat.lt_of_lt_of_le (hl.flt i hi) b4.size⟩⟩, fun _ _ _ => rfl, B3.trans (b345.mono B3.size), by omega, Nat.le_refl _⟩
  obtain ⟨g', hg', hB', _, hc5⟩ := Rc.owns_cells ho5 (by decide)
  obtain rfl : gl = g' := by injection hg' with h; injection h
  have hlg := ho5.lt gl rfl
  have HCl : Hid (∀ k, k < 17 → ∃ hq cq, (∀ u : World, (∀ i, u4.heap.size ≤ i → i < u5.heap.size → u.heap[i]? = u5.heap[i]?) → u.cell? ⟨gl, k, none⟩ = some (.slice (some ⟨hq, 0, none⟩) 4096 cq) ∧ Dk.Rd u (some ⟨hq, 0, none⟩) ((Rc.putL 1 1 (im9 3 16)).getD k [])) ∧ u4.heap.size ≤ hq ∧ hq < u5.heap.size ∧ ((Rc.putL 1 1 (im9 3 16)).getD k []).length = 4096) := fun k hk => by
    have hkq : k < qs5.length := by omega
    obtain ⟨q1, q2, q3⟩ := hj5.rows _ (List.getElem_mem hkq)
    have e : (Rc.putL 1 1 (im9 3 16)).getD k [] = (qs5[k]).xs := by rw [← hq5]; simp [hkq]
    refine ⟨(qs5[k]).h, (qs5[k]).c, fun u hu => ⟨?_, ?_⟩, q2, q1.lt, by rw [e]; exact q3⟩
    · rw [World.cell?_of_block (a := ⟨gl, k, none⟩) (hu gl hlg.1 hlg.2), hc5 k (by omega)]
      simp [Rc.lstC, hkq]
    · rw [e]
      exact (Rc.RowB.same q1 (hu _ q2 q1.lt)).rd
  clear hdx hFx b3 b4 hIm cP ho5 hj5 hq5 hl5 hc5 hB' hlg b34 b345 b5 B3 hE hSq hg'
  go_upto_block 0 with fail
  go_cut [] from 41 to 58 (fun u => KO w u4 u5 dx (J.grow (Dk.DS.new 64 (Dk.nought (64 * 4096))) 16 0 (Rc.putL 1 1 (im9 3 16)) 16) u)
  case first =>
   as_aux_lemma =>
   go_wp2_with fail
   go_loopw [11] (fun i u => ∃ k : Nat, k ≤ 16 ∧ i = .int .i64 (k : Int) ∧ KO w u4 u5 dx (J.grow (Dk.DS.new 64 (Dk.nought (64 * 4096))) 16 0 (Rc.putL 1 1 (im9 3 16)) k) u) (fun i _ => 16 - (intOf i).toNat)
   case atStart => exact ⟨0, by decide, rfl, hK0.out⟩
   case round =>
    obtain ⟨k, hk, rfl, hK⟩ := hrel
    by_cases hlt : k < 16
    · obtain ⟨hq, cq, hcl, z1, z2, hln⟩ := HCl.out k (by omega)
      obtain ⟨hcell, hrd⟩ := hcl wr hK.keep
      have hgu : (J.grow (Dk.DS.new 64 (Dk.nought (64 * 4096))) 16 0 (Rc.putL 1 1 (im9 3 16)) k).uf.length = k := by
        show ([] ++ J.wrs 16 0 _ k).length = k
        rw [List.nil_append, J.wrs_length]
      have cWr := hK.write (J.grow_calm (J.calm_new _ _) 16 0 _ k) rfl ⟨by rw [hgu]; omega, by show 0 + k ≤ 1000; omega⟩ (2 + k) hq cq (by omega) _ hln hrd ⟨z1, z2⟩
      rw [show (((2 + k : Nat)) : Int) = 2 + (k : Int) by push_cast; rfl] at cWr
      have HGr : Hid (∀ u, KO w u4 u5 dx { J.grow (Dk.DS.new 64 (Dk.nought (64 * 4096))) 16 0 (Rc.putL 1 1 (im9 3 16)) k with uf := (J.grow (Dk.DS.new 64 (Dk.nought (64 * 4096))) 16 0 (Rc.putL 1 1 (im9 3 16)) k).uf ++ [(2 + k, (Rc.putL 1 1 (im9 3 16)).getD k [])], n := (J.grow (Dk.DS.new 64 (Dk.nought (64 * 4096))) 16 0 (Rc.putL 1 1 (im9 3 16)) k).n + 1 } u → KO w u4 u5 dx (J.grow (Dk.DS.new 64 (Dk.nought (64 * 4096))) 16 0 (Rc.putL 1 1 (im9 3 16)) (k + 1)) u) := fun u h => by
        rw [J.grow_one, show 2 + (0 + k) % 16 = 2 + k by omega]
        exact h
      clear hgu hrd hcl hln
      go_wp2_with fail
      refine Calls.mono cWr ?_
      rintro r u6 ⟨rfl, hK6⟩
      have hK7 := HGr.out _ hK6
      clear hK6 cWr HGr
      go_wp2_with fail
      go_roundw
      case rel => exact ⟨k + 1, by omega, by push_cast; rfl, hK7⟩
      case measure => simp [intOf]; omega
    · have hk16 : k = 16 := by omega
      subst hk16
      go_wp2_with fail
      go_meet
      case rel => exact hK
  case rest =>
   have HK : Hid (KO w u4 u5 dx (J.grow (Dk.DS.new 64 (Dk.nought (64 * 4096))) 16 0 (Rc.putL 1 1 (im9 3 16)) 16) wc) := hcut
   clear hcut hK0 HCl
   go_wp2_with fail
   refine Calls.mono (L0.out _) ?_
   rintro r u7 ⟨rfl, b7⟩
   have B7 := HK.out.bel.trans (b7.mono HK.out.bel.size)
   obtain ⟨F7, hd7, _⟩ := HK.out.dsk
   have cG := told_none (hd7.below b7) rfl rfl (by show ([] ++ J.wrs 16 0 _ 16).length ≤ 1000000; rw [List.nil_append, J.wrs_length]; decide) 0 1 1 (by decide) (by decide) (by decide) (long_no 1)
   unfold lay at cG
   clear hd7 HK b7
   go_wp2_with fail
   refine Calls.mono cG ?_
   rintro r u8 ⟨a8, c8, rfl, b8⟩
   go_wp2_with fail
   go_ret
   exact ⟨rfl, B7.trans (b8.mono B7.size)⟩
end Go.Proofs.YtkhejjddmbegaaaGreat.S

/-
  What Groups answers where the disk is gone; where there is none.
-/
namespace Go.Proofs.YtkhejjddmbegaaaGreat.S
open Go.RowKit Go.Shelf
open Go.Proofs.YtkhejjddmbegaaaGreat.Dk (Box)
attribute [local go_sem] Oper.semAt_some

theorem read_down {g : Nat} {w : World} {D : Dk.DS} {F : Nat → Prop} (hd : Dk.IsDisk w g D F) (nn : Nat) (hn : nn < D.nb) (hg : D.gone = true) :
    Calls Tryz.prog 9 #[.pointer (some ⟨g, 0, none⟩), .int .i64 (nn : Int)] w fun e w' => e = .returned (.tuple #[.slice none 0 0, .int .i64 6]) ∧ Below w.heap.size w w' := by
  obtain ⟨gd, cd, vu, ps, h⟩ := hd
  have c := Dk.isMade_at h
  have cH := Dk.has_at h (nn : Int)
  have hhas : D.has (nn : Int) = true := by simp [Dk.DS.has]; omega
  rw [hhas] at cH
  obtain ⟨_, _, _, _, c4, _⟩ := Dk.box_cells h.box
  rw [hg] at c4
  clear h hhas
  go_enter Tryz.func9, Tryz.ntmps9
  go_wp2_with fail
  refine c.mono ?_
  rintro e w' ⟨rfl, rfl⟩
  go_wp2_with fail
  refine cH.mono ?_
  rintro e w' ⟨rfl, rfl⟩
  go_wp2_with fail
  exact bodyPost_ret (v := .tuple #[.slice none 0 0, .int .i64 6]) (by simp [results, Tryz.results9, go_sem]) rfl ⟨rfl, Below.refl _ _⟩
set_option maxHeartbeats 4000000 in
theorem block_down {w : World} {dg : Nat} {D : Dk.DS} {F : Nat → Prop} (hd : Dk.IsDisk w dg D F) (hnb : D.nb = 64) (hg : D.gone = true) (B E S : Int) (t b : Nat) (ht : t < 16) (hb : b ≤ 1000) :
    Calls Tryz.prog 71 #[.agg (rC dg B E S (t : Int)), .int .i64 (b : Int)] w fun r w' => r = .returned (.tuple #[.slice none 0 0, .int .i64 6]) ∧ Below w.heap.size w w' := by
  have al := (Below.refl w.heap.size w).alloc (Nat.le_refl _) (.cells (rC dg B E S (t : Int)) 65)
  have x0 := Dk.Box.new w (rC dg B E S (t : Int)) 65
  have hm : (t + b) % 16 < 16 := Nat.mod_lt _ (by decide)
  have HS : Hid (∀ u, Below (w.alloc (.cells (rC dg B E S (t : Int)) 65)).heap.size (w.alloc (.cells (rC dg B E S (t : Int)) 65)) u → R12 w dg B E S (t : Int) u) := fun u bu => r_cells (x0.below bu)
  have HR : Hid (∀ u, Below w.heap.size w u → Calls Tryz.prog 9 #[.pointer (some ⟨dg, 0, none⟩), .int .i64 (2 + (((t + b) % 16 : Nat) : Int))] u fun e w' => e = .returned (.tuple #[.slice none 0 0, .int .i64 6]) ∧ Below u.heap.size u w') := fun u bu => by
    have hd' : Dk.IsDisk u dg D F := by
      obtain ⟨gd, cd, vu, ps, hl⟩ := hd
      exact ⟨gd, cd, vu, ps, hl.kept (fun i hi => bu.block i (hl.flt i hi)) bu.size⟩
    have c := read_down hd' (2 + (t + b) % 16) (by omega) hg
    have e : ((2 + (t + b) % 16 : Nat) : Int) = 2 + (((t + b) % 16 : Nat) : Int) := by omega
    rw [e] at c
    exact c
  have HP : Hid (∀ u, Calls Tryz.prog 27 #[.agg (rC dg B E S (t : Int)), .int .i64 (b : Int)] u fun r w' => r = .returned (.int .i64 (((t + b) % 16 : Nat) : Int)) ∧ Below u.heap.size u w') := fun u => place_at dg t b B E S u ht hb
  generalize (t + b) % 16 = p at HR HP hm
  have hwp : IntKind.i64.wrap (2 + (p : Int)) = 2 + (p : Int) := by rw [IntKind.wrap_i64]; omega
  have HAL : Hid (Below w.heap.size w (w.alloc (.cells (rC dg B E S (t : Int)) 65))) := al
  clear hd x0 al
  unfold rC at HS HP HAL ⊢
  go_enter Tryz.func71, Tryz.ntmps71
  go_wp2_with fail
  generalize hW : w.alloc (.cells #[.pointer (some ⟨dg, 0, none⟩), .int .i64 64, .int .i64 2, .int .i64 16, .int .i64 18, .int .i64 19, .int .i64 4, .int .i64 23, .int .i64 B, .int .i64 E, .int .i64 S, .int .i64 (t : Int)] 65) = W at HS HAL ⊢
  clear hW
  go_region_held3 (fun u => u.cell? ⟨w.heap.size, 0, none⟩ = some (.pointer (some ⟨dg, 0, none⟩)) ∧ u.cell? ⟨w.heap.size, 1, none⟩ = some (.int .i64 64) ∧ u.cell? ⟨w.heap.size, 2, none⟩ = some (.int .i64 2) ∧ u.cell? ⟨w.heap.size, 3, none⟩ = some (.int .i64 16) ∧ u.cell? ⟨w.heap.size, 4, none⟩ = some (.int .i64 18) ∧ u.cell? ⟨w.heap.size, 5, none⟩ = some (.int .i64 19) ∧ u.cell? ⟨w.heap.size, 6, none⟩ = some (.int .i64 4) ∧ u.cell? ⟨w.heap.size, 7, none⟩ = some (.int .i64 23) ∧ u.cell? ⟨w.heap.size, 8, none⟩ = some (.int .i64 B) ∧ u.cell? ⟨w.heap.size, 9, none⟩ = some (.int .i64 E) ∧ u.cell? ⟨w.heap.size, 10, none⟩ = some (.int .i64 S) ∧ u.cell? ⟨w.heap.size, 11, none⟩ = some (.int .i64 (t : Int)))
    (first | with_reducible exact HS.out _ ((Below.refl W.heap.size W).drew) | with_reducible exact HS.out _ B2 | with_reducible exact HS.out _ B1)
    (first
      | (go_at_call 27; refine Calls.mono (HP.out W.drew) ?_; rintro r u1 ⟨rfl, hw1⟩; have B1 : Below W.heap.size W u1 := ((Below.refl W.heap.size W).drew).trans hw1)
      | (go_at_call 9; refine Calls.mono (HR.out u1 (HAL.out.trans (B1.mono HAL.out.size))) ?_; rintro r u2 ⟨rfl, hw2⟩; have B2 : Below W.heap.size W u2 := B1.trans (hw2.mono B1.size)))
  go_wp2_with fail
  exact bodyPost_ret (v := .tuple #[.slice none 0 0, .int .i64 6]) (by simp [results, Tryz.results71, go_sem]) rfl ⟨rfl, HAL.out.trans (B2.mono HAL.out.size)⟩
set_option maxRecDepth 100000 in
set_option maxHeartbeats 4000000 in
theorem group_down {w : World} {dg : Nat} {D : Dk.DS} {F : Nat → Prop} (hd : Dk.IsDisk w dg D F) (hnb : D.nb = 64) (hg : D.gone = true) (B : Int) (S : Int) (t E b s : Nat) (ht : t < 16) (hb : b ≤ 16) :
    Calls Tryz.prog 49 #[.agg (rC dg B (E : Int) S (t : Int)), .int .i64 (b : Int), .int .i64 (s : Int)] w fun r w' => r = .returned (.tuple #[.agg #[.int .i64 0, .int .i64 0, .slice none 0 0], .int .i64 6]) ∧ Below w.heap.size w w' := by
  have HBk : Hid (∀ (u : World) (k : Nat), Below w.heap.size w u → k ≤ 1000 → Calls Tryz.prog 71 #[.agg (rC dg B (E : Int) S (t : Int)), .int .i64 (k : Int)] u fun r w' => r = .returned (.tuple #[.slice none 0 0, .int .i64 6]) ∧ Below u.heap.size u w') := fun u k bu hk => by
    have hd' : Dk.IsDisk u dg D F := by
      obtain ⟨gd, cd, vu, ps, hl⟩ := hd
      exact ⟨gd, cd, vu, ps, hl.kept (fun i hi => bu.block i (hl.flt i hi)) bu.size⟩
    exact block_down hd' hnb hg B E S t k ht hk
  clear hd
  have b1 := (Below.refl w.heap.size w).alloc (Nat.le_refl _) (.cells (rC dg B (E : Int) S (t : Int)) 65)
  have B0 := b1.alloc b1.size (.cells #[.int .i64 0, .int .i64 0, .slice none 0 0] 40)
  have x0 := (Dk.Box.new w (rC dg B (E : Int) S (t : Int)) 65).alloc (.cells #[.int .i64 0, .int .i64 0, .slice none 0 0] 40)
  have x1 : Box ((w.alloc (.cells (rC dg B (E : Int) S (t : Int)) 65)).alloc (.cells #[.int .i64 0, .int .i64 0, .slice none 0 0] 40)) (w.heap.size + 1) #[.int .i64 0, .int .i64 0, .slice none 0 0] 40 := Rg.Box.next w _ _ 40
  have z0 : Hid (((w.alloc (.cells (rC dg B (E : Int) S (t : Int)) 65)).alloc (.cells #[.int .i64 0, .int .i64 0, .slice none 0 0] 40)).heap.size = w.heap.size + 2) := by show _ = _; simp
  obtain ⟨y0, y1, y2, y3, y4, y5, y6, y7, y8, y9, y10, y11⟩ := r_cells x0
  have HX0 : Hid (Box ((w.alloc (.cells (rC dg B (E : Int) S (t : Int)) 65)).alloc (.cells #[.int .i64 0, .int .i64 0, .slice none 0 0] 40)) w.heap.size (rC dg B (E : Int) S (t : Int)) 65) := x0
  clear b1 x0
  unfold rC at *
  have HX1 : Hid (Box ((w.alloc (.cells #[.pointer (some ⟨dg, 0, none⟩), .int .i64 64, .int .i64 2, .int .i64 16, .int .i64 18, .int .i64 19, .int .i64 4, .int .i64 23, .int .i64 B, .int .i64 (E : Int), .int .i64 S, .int .i64 (t : Int)] 65)).alloc (.cells #[.int .i64 0, .int .i64 0, .slice none 0 0] 40)) (w.heap.size + 1) #[.int .i64 0, .int .i64 0, .slice none 0 0] 40) := x1
  have HB0 : Hid (Below w.heap.size w ((w.alloc (.cells #[.pointer (some ⟨dg, 0, none⟩), .int .i64 64, .int .i64 2, .int .i64 16, .int .i64 18, .int .i64 19, .int .i64 4, .int .i64 23, .int .i64 B, .int .i64 (E : Int), .int .i64 S, .int .i64 (t : Int)] 65)).alloc (.cells #[.int .i64 0, .int .i64 0, .slice none 0 0] 40))) := B0
  have cB := HBk.out _ B0 (k := b) (by omega)
  clear x1 B0
  go_enter Tryz.func49, Tryz.ntmps49
  go_wp2_with fail
  refine Calls.mono cB ?_
  generalize (w.alloc (.cells #[.pointer (some ⟨dg, 0, none⟩), .int .i64 64, .int .i64 2, .int .i64 16, .int .i64 18, .int .i64 19, .int .i64 4, .int .i64 23, .int .i64 B, .int .i64 (E : Int), .int .i64 S, .int .i64 (t : Int)] 65)).alloc (.cells #[.int .i64 0, .int .i64 0, .slice none 0 0] 40) = W0 at *
  rintro r u1 ⟨rfl, bb1⟩
  clear cB y0 y1 y2 y3 y4 y5 y6 y7 y8 y9 y10 y11
  have x2 := HX1.out.below bb1
  obtain ⟨⟨q0, q1, q2⟩, p0, p1, p2⟩ := box3 x2
  have x3 := box_set3 x2 (.int .i64 0) (.int .i64 0) (.slice none 0 0)
  have d0 := x3.cell 0
  have d1 := x3.cell 1
  have d2 := x3.cell 2
  simp at d0 d1 d2
  have Bf := below_set3 (HB0.out.trans (bb1.mono HB0.out.size)) (k := w.heap.size + 1) (Nat.le_succ _) (.int .i64 0) (.int .i64 0) (.slice none 0 0)
  go_wp2_with fail
  exact bodyPost_ret (v := .tuple #[.agg #[.int .i64 0, .int .i64 0, .slice none 0 0], .int .i64 6]) (by simp [results, Tryz.results49, go_sem, d0, d1, d2]) rfl ⟨rfl, Bf⟩

/-- the function that is ranged over hands on one error -/
theorem stops_down (n : Nat) (hn : 1 ≤ n) (Br dg : Nat) (D : Dk.DS) (F : Nat → Prop) (t E S0 : Nat) (Bk : Int) (ht : t < 16) (hnb : D.nb = 64) (hgn : D.gone = true) (w : World) (hd : Dk.IsDisk w dg D F) (hBr : Box w Br (rC dg Bk (E : Int) (S0 : Int) (t : Int)) 65) :
    SeqStopsK Fence.wide n Tryz.prog 48 #[.pointer (some ⟨Br, 0, none⟩)] (fun _ : Unit => #[.agg #[.int .i64 0, .int .i64 0, .slice none 0 0], .int .i64 6]) (fun _ _ => True) (fun xs => xs = [()]) (fun pre => pre = [()]) 1 w := by
  intro l J Jx W b hA hAx hY h0
  have hbr := hBr.below b
  obtain ⟨y0, y1, y2, y3, y4, y5, y6, y7, y8, y9, y10, y11⟩ := r_cells hbr
  have cG := group_down (hd.below b) hnb hgn Bk (S0 : Int) t E 0 S0 ht (by decide)
  unfold rC at cG
  have HJ : Hid (∀ B, Below W.heap.size W B → J [] B) := fun B hb => hA [] W B none h0 ⟨hb.os, hb.tape, hb.output, hb.size, fun k hk _ => hb.block k hk⟩ (fun r e => by cases e)
  have HY : Hid (∀ W1, J [] W1 → YieldAt Fence.wide (n - 1) Tryz.prog l #[.agg #[.int .i64 0, .int .i64 0, .slice none 0 0], .int .i64 6] W1 fun e W' => (e = .returned (.bool true) ∧ J ([] ++ [()]) W' ∧ True) ∨ (e = .returned (.bool false) ∧ Jx ([] ++ [()]) W')) := fun W1 h => hY [] () W1 h (by decide)
  clear hA hAx hY h0 hBr hd b hbr
  refine callsIn_of_wp Tryz.func48 rfl trivial ?_ rfl
  simp only [Tryz.ntmps48, List.size_toArray, List.length_cons, List.length_nil, Nat.reduceAdd, Nat.reduceSub, Array.replicate_succ, Array.replicate_zero, List.push_toArray, List.append_toArray, List.nil_append, List.cons_append]
  gi_wp2
  gi_loopw [3, 4] (fun v3 v4 wr => v3 = .int .i64 0 ∧ v4 = .int .i64 (S0 : Int) ∧ W = wr) (fun _ _ _ => 0)
  case atStart => exact ⟨rfl, rfl, rfl⟩
  case round =>
    obtain ⟨rfl, rfl, rfl⟩ := hrel
    gi_wp2_with fail
    refine ⟨trivial, ?_⟩
    refine ((callsIn_wide (n := n - 1)).2 cG).mono ?_
    rintro r u1 ⟨rfl, bb1⟩
    have bz := bb1.alloc bb1.size (.cells #[.int .i64 0, .int .i64 0, .slice none 0 0] 40)
    obtain ⟨fn, tmps, assign, body, hy, hR⟩ := HY.out _ (HJ.out _ bz)
    have x5 := Dk.Box.new u1 #[.int .i64 0, .int .i64 0, .slice none 0 0] 40
    have q0 := x5.cell 0
    have q1 := x5.cell 1
    have q2 := x5.cell 2
    simp at q0 q1 q2
    clear cG bb1 bz y0 y1 y2 y3 y4 y5 y6 y7 y8 y9 y10 y11
    gi_wp2_with fail
    refine hR.mono ?_
    rintro e W3 (⟨rfl, hJ3, _⟩ | ⟨rfl, hJ3⟩)
    · gi_wp2_with fail
      refine bodyPost_ret (results_none rfl _ _ _) rfl ?_
      exact ⟨⟨_, rfl⟩, .inl ⟨_, rfl, hJ3⟩⟩
    · gi_wp2_with fail
      refine bodyPost_ret (results_none rfl _ _ _) rfl ?_
      exact ⟨⟨_, rfl⟩, .inr ⟨_, rfl, hJ3⟩⟩

theorem own_box {B g : Nat} {A C : World} {row : Option Nat} {cs : Array Value} {ty : TypeId} (h : Box A g cs ty) (hg : A.grownBy C row) (hr : ∀ r, row = some r → B ≤ r ∧ ∃ o : Obj, A.heap[r]? = some o ∧ o.isCells = false) : Box C g cs ty :=
  (hg.block g h.lt (fun e => by
    obtain ⟨_, o, ho, hc⟩ := hr g e.symm
    have hb' : A.heap[g]? = some (.cells cs ty) := h
    rw [hb'] at ho
    cases ho
    cases hc)).trans h
/-- the results' boxes -/
structure R3 (w : World) (e : Int) (W : World) : Prop where
  a : Box W (w.heap.size + 1 + 1) #[.slice none 0 0] 26
  b : Box W (w.heap.size + 1 + 1 + 1) #[.int .i64 0] 3
  c : Box W (w.heap.size + 1 + 1 + 1 + 1) #[.int .i64 e] 23
  bel : Below w.heap.size w W
theorem R3.below {w W W' : World} {e : Int} (h : R3 w e W) (b : Below W.heap.size W W') : R3 w e W' := ⟨h.a.below b, h.b.below b, h.c.below b, h.bel.trans (b.mono h.bel.size)⟩
theorem R3.own {w : World} {e : Int} {B : Nat} (hB : w.heap.size ≤ B) {A C : World} {row : Option Nat} (h : R3 w e A) (hg : A.grownBy C row) (hr : ∀ r, row = some r → B ≤ r ∧ ∃ o : Obj, A.heap[r]? = some o ∧ o.isCells = false) : R3 w e C :=
  ⟨own_box h.a hg hr, own_box h.b hg hr, own_box h.c hg hr, h.bel.grown hg h.bel.size (fun k e => Nat.le_trans hB (hr k e).1)⟩
theorem R3.put {w W : World} (h : R3 w 0 W) : R3 w 6 (((W.setCell ⟨w.heap.size + 1 + 1, 0, none⟩ (.slice none 0 0)).setCell ⟨w.heap.size + 1 + 1 + 1, 0, none⟩ (.int .i64 0)).setCell ⟨w.heap.size + 1 + 1 + 1 + 1, 0, none⟩ (.int .i64 6)) := by
  refine ⟨?_, ?_, ?_, ?_⟩
  · have := ((h.a.store 0 (.slice none 0 0)).set_other (b := w.heap.size + 1 + 1 + 1) (by omega) 0 (.int .i64 0)).set_other (b := w.heap.size + 1 + 1 + 1 + 1) (by omega) 0 (.int .i64 6)
    simpa using this
  · have := ((h.b.set_other (b := w.heap.size + 1 + 1) (by omega) 0 (.slice none 0 0)).store 0 (.int .i64 0)).set_other (b := w.heap.size + 1 + 1 + 1 + 1) (by omega) 0 (.int .i64 6)
    simpa using this
  · have := ((h.c.set_other (b := w.heap.size + 1 + 1) (by omega) 0 (.slice none 0 0)).set_other (b := w.heap.size + 1 + 1 + 1) (by omega) 0 (.int .i64 0)).store 0 (.int .i64 6)
    simpa using this
  · exact ((h.bel.setCell (p := ⟨w.heap.size + 1 + 1, 0, none⟩) (by show w.heap.size ≤ w.heap.size + 1 + 1; omega) _).setCell (p := ⟨w.heap.size + 1 + 1 + 1, 0, none⟩) (by show w.heap.size ≤ w.heap.size + 1 + 1 + 1; omega) _).setCell (p := ⟨w.heap.size + 1 + 1 + 1 + 1, 0, none⟩) (by show w.heap.size ≤ w.heap.size + 1 + 1 + 1 + 1; omega) _

set_option maxRecDepth 100000 in
set_option maxHeartbeats 2000000 in
theorem groups_down {w : World} {dg : Nat} {D : Dk.DS} {F : Nat → Prop} (hd : Dk.IsDisk w dg D F) (hnb : D.nb = 64) (hgn : D.gone = true) (t E S0 : Nat) (ht : t < 16) (hE : 1 ≤ E ∧ E ≤ 8388608) (hS : 1 ≤ S0 ∧ S0 ≤ 549755813888) :
    Calls Tryz.prog 6 #[.pointer (some ⟨dg, 0, none⟩), .agg lay, .agg #[.int .i64 64, .int .i64 (E : Int), .int .i64 (S0 : Int), .int .i64 (t : Int)]] w fun r w' => r = .returned (.tuple #[.slice none 0 0, .int .i64 0, .int .i64 6]) ∧ Below w.heap.size w w' := by
  refine (callsIn_wide (n := 4)).1 ?_
  have e0 : ∃ W5, W5 = (((((w.alloc (.cells #[.int .i64 64, .int .i64 2, .int .i64 16, .int .i64 18, .int .i64 19, .int .i64 4, .int .i64 23] 30)).alloc (.cells #[.int .i64 64, .int .i64 (E : Int), .int .i64 (S0 : Int), .int .i64 (t : Int)] 33)).alloc (.cells #[.slice none 0 0] 26)).alloc (.cells #[.int .i64 0] 3)).alloc (.cells #[.int .i64 0] 23)) := ⟨_, rfl⟩
  obtain ⟨W5, hW5⟩ := e0
  have z1 : (w.alloc (.cells #[.int .i64 64, .int .i64 2, .int .i64 16, .int .i64 18, .int .i64 19, .int .i64 4, .int .i64 23] 30)).heap.size = w.heap.size + 1 := by simp
  have z2 : ((w.alloc (.cells #[.int .i64 64, .int .i64 2, .int .i64 16, .int .i64 18, .int .i64 19, .int .i64 4, .int .i64 23] 30)).alloc (.cells #[.int .i64 64, .int .i64 (E : Int), .int .i64 (S0 : Int), .int .i64 (t : Int)] 33)).heap.size = w.heap.size + 2 := by simp
  have z3 : (((w.alloc (.cells #[.int .i64 64, .int .i64 2, .int .i64 16, .int .i64 18, .int .i64 19, .int .i64 4, .int .i64 23] 30)).alloc (.cells #[.int .i64 64, .int .i64 (E : Int), .int .i64 (S0 : Int), .int .i64 (t : Int)] 33)).alloc (.cells #[.slice none 0 0] 26)).heap.size = w.heap.size + 3 := by simp
  have z4 : ((((w.alloc (.cells #[.int .i64 64, .int .i64 2, .int .i64 16, .int .i64 18, .int .i64 19, .int .i64 4, .int .i64 23] 30)).alloc (.cells #[.int .i64 64, .int .i64 (E : Int), .int .i64 (S0 : Int), .int .i64 (t : Int)] 33)).alloc (.cells #[.slice none 0 0] 26)).alloc (.cells #[.int .i64 0] 3)).heap.size = w.heap.size + 4 := by simp
  have z5 : W5.heap.size = w.heap.size + 5 := by rw [hW5]; simp
  have bx0 : Box W5 w.heap.size #[.int .i64 64, .int .i64 2, .int .i64 16, .int .i64 18, .int .i64 19, .int .i64 4, .int .i64 23] 30 := by rw [hW5]; exact ((((Dk.Box.new w #[.int .i64 64, .int .i64 2, .int .i64 16, .int .i64 18, .int .i64 19, .int .i64 4, .int .i64 23] 30).alloc _).alloc _).alloc _).alloc _
  have bx1 : Box W5 (w.heap.size + 1) #[.int .i64 64, .int .i64 (E : Int), .int .i64 (S0 : Int), .int .i64 (t : Int)] 33 := by rw [hW5, ← z1]; exact (((Dk.Box.new (w.alloc (.cells #[.int .i64 64, .int .i64 2, .int .i64 16, .int .i64 18, .int .i64 19, .int .i64 4, .int .i64 23] 30)) #[.int .i64 64, .int .i64 (E : Int), .int .i64 (S0 : Int), .int .i64 (t : Int)] 33).alloc _).alloc _).alloc _
  have bx2 : Box W5 (w.heap.size + 2) #[.slice none 0 0] 26 := by rw [hW5, ← z2]; exact ((Dk.Box.new ((w.alloc (.cells #[.int .i64 64, .int .i64 2, .int .i64 16, .int .i64 18, .int .i64 19, .int .i64 4, .int .i64 23] 30)).alloc (.cells #[.int .i64 64, .int .i64 (E : Int), .int .i64 (S0 : Int), .int .i64 (t : Int)] 33)) #[.slice none 0 0] 26).alloc _).alloc _
  have bx3 : Box W5 (w.heap.size + 3) #[.int .i64 0] 3 := by rw [hW5, ← z3]; exact (Dk.Box.new (((w.alloc (.cells #[.int .i64 64, .int .i64 2, .int .i64 16, .int .i64 18, .int .i64 19, .int .i64 4, .int .i64 23] 30)).alloc (.cells #[.int .i64 64, .int .i64 (E : Int), .int .i64 (S0 : Int), .int .i64 (t : Int)] 33)).alloc (.cells #[.slice none 0 0] 26)) #[.int .i64 0] 3).alloc _
  have bx4 : Box W5 (w.heap.size + 4) #[.int .i64 0] 23 := by rw [hW5, ← z4]; exact Dk.Box.new ((((w.alloc (.cells #[.int .i64 64, .int .i64 2, .int .i64 16, .int .i64 18, .int .i64 19, .int .i64 4, .int .i64 23] 30)).alloc (.cells #[.int .i64 64, .int .i64 (E : Int), .int .i64 (S0 : Int), .int .i64 (t : Int)] 33)).alloc (.cells #[.slice none 0 0] 26)).alloc (.cells #[.int .i64 0] 3)) #[.int .i64 0] 23
  have B5 : Below w.heap.size w W5 := by rw [hW5]; exact (((((Below.refl w.heap.size w).alloc (Nat.le_refl _) _).alloc (by simp) _).alloc (by simp; omega) _).alloc (by simp; omega) _).alloc (by simp; omega) _
  have hA := ahead_ok (hd.below B5) hnb (E : Int) (S0 : Int) (t : Int) (by omega) (by omega) (by omega)
  unfold lay at hA ⊢
  refine callsIn_of_wp_marks Tryz.func6 rfl trivial ?_ rfl
  simp only [Tryz.ntmps6, List.size_toArray, List.length_cons, List.length_nil, Nat.reduceAdd, Nat.reduceSub, Array.replicate_succ, Array.replicate_zero, List.push_toArray, List.append_toArray, List.nil_append, List.cons_append]
  have HZ : Hid (W5.heap.size = w.heap.size + 5) := z5
  clear z1 z2 z3 z4 z5
  have HB5 : Hid (Below w.heap.size w W5 ∧ Box W5 (w.heap.size + 2) #[.slice none 0 0] 26 ∧ Box W5 (w.heap.size + 3) #[.int .i64 0] 3 ∧ Box W5 (w.heap.size + 4) #[.int .i64 0] 23) := ⟨B5, bx2, bx3, bx4⟩
  have HD : Hid (∀ u, Below W5.heap.size W5 u → Box u w.heap.size #[.int .i64 64, .int .i64 2, .int .i64 16, .int .i64 18, .int .i64 19, .int .i64 4, .int .i64 23] 30 ∧ Box u (w.heap.size + 1) #[.int .i64 64, .int .i64 (E : Int), .int .i64 (S0 : Int), .int .i64 (t : Int)] 33) := fun u bu => ⟨bx0.below bu, bx1.below bu⟩
  have f0 := bx0.cell 0
  have f1 := bx0.cell 1
  have f2 := bx0.cell 2
  have f3 := bx0.cell 3
  have f4 := bx0.cell 4
  have f5 := bx0.cell 5
  have f6 := bx0.cell 6
  have h0 := bx1.cell 0
  have h1 := bx1.cell 1
  have h2 := bx1.cell 2
  have h3 := bx1.cell 3
  simp only [List.getElem?_toArray, List.getElem?_cons_zero, List.getElem?_cons_succ] at f0 f1 f2 f3 f4 f5 f6 h0 h1 h2 h3
  clear B5 bx0 bx1 bx2 bx3 bx4
  have HW : Hid (∃ W, W = W5) := ⟨_, rfl⟩
  rw [hW5] at hA f0 f1 f2 f3 f4 f5 f6 h0 h1 h2 h3
  gi_wp2_with fail
  refine ⟨trivial, ?_⟩
  refine ((callsIn_wide (n := 3)).2 hA).mono ?_
  rintro r u1 ⟨rfl, b1⟩
  rw [← hW5] at b1
  clear hA f0 f1 f2 f3 f4 f5 f6 h0 h1 h2 h3
  obtain ⟨y0, y1⟩ := HD.out u1 b1
  have f0 := y0.cell 0
  have f1 := y0.cell 1
  have f2 := y0.cell 2
  have f3 := y0.cell 3
  have f4 := y0.cell 4
  have f5 := y0.cell 5
  have f6 := y0.cell 6
  have h0 := y1.cell 0
  have h1 := y1.cell 1
  have h2 := y1.cell 2
  have h3 := y1.cell 3
  simp only [List.getElem?_toArray, List.getElem?_cons_zero, List.getElem?_cons_succ] at f0 f1 f2 f3 f4 f5 f6 h0 h1 h2 h3
  obtain ⟨W8, hW8⟩ : ∃ W8, W8 = (((u1.alloc (.cells #[.pointer (some ⟨dg, 0, none⟩), .int .i64 64, .int .i64 2, .int .i64 16, .int .i64 18, .int .i64 19, .int .i64 4, .int .i64 23, .int .i64 64, .int .i64 (E : Int), .int .i64 (S0 : Int), .int .i64 (t : Int)] 65)).alloc (.cells #[.slice none 0 0] 26)).alloc (.cells #[.int .i64 0] 3)) := ⟨_, rfl⟩
  have s1 : (u1.alloc (.cells #[.pointer (some ⟨dg, 0, none⟩), .int .i64 64, .int .i64 2, .int .i64 16, .int .i64 18, .int .i64 19, .int .i64 4, .int .i64 23, .int .i64 64, .int .i64 (E : Int), .int .i64 (S0 : Int), .int .i64 (t : Int)] 65)).heap.size = u1.heap.size + 1 := by simp
  have s2 : ((u1.alloc (.cells #[.pointer (some ⟨dg, 0, none⟩), .int .i64 64, .int .i64 2, .int .i64 16, .int .i64 18, .int .i64 19, .int .i64 4, .int .i64 23, .int .i64 64, .int .i64 (E : Int), .int .i64 (S0 : Int), .int .i64 (t : Int)] 65)).alloc (.cells #[.slice none 0 0] 26)).heap.size = u1.heap.size + 2 := by simp
  have s3 : Hid (W8.heap.size = u1.heap.size + 3) := by
    have : W8.heap.size = u1.heap.size + 3 := by rw [hW8]; simp
    exact this
  have r0 : Box W8 u1.heap.size #[.pointer (some ⟨dg, 0, none⟩), .int .i64 64, .int .i64 2, .int .i64 16, .int .i64 18, .int .i64 19, .int .i64 4, .int .i64 23, .int .i64 64, .int .i64 (E : Int), .int .i64 (S0 : Int), .int .i64 (t : Int)] 65 := by rw [hW8]; exact ((Dk.Box.new u1 #[.pointer (some ⟨dg, 0, none⟩), .int .i64 64, .int .i64 2, .int .i64 16, .int .i64 18, .int .i64 19, .int .i64 4, .int .i64 23, .int .i64 64, .int .i64 (E : Int), .int .i64 (S0 : Int), .int .i64 (t : Int)] 65).alloc _).alloc _
  have r1 : Hid (Box W8 (u1.heap.size + 1) #[.slice none 0 0] 26) := by
    have : Box W8 (u1.heap.size + 1) #[.slice none 0 0] 26 := by rw [hW8, ← s1]; exact (Dk.Box.new (u1.alloc (.cells #[.pointer (some ⟨dg, 0, none⟩), .int .i64 64, .int .i64 2, .int .i64 16, .int .i64 18, .int .i64 19, .int .i64 4, .int .i64 23, .int .i64 64, .int .i64 (E : Int), .int .i64 (S0 : Int), .int .i64 (t : Int)] 65)) #[.slice none 0 0] 26).alloc _
    exact this
  have r2 : Hid (Box W8 (u1.heap.size + 2) #[.int .i64 0] 3) := by
    have : Box W8 (u1.heap.size + 2) #[.int .i64 0] 3 := by rw [hW8, ← s2]; exact Dk.Box.new ((u1.alloc (.cells #[.pointer (some ⟨dg, 0, none⟩), .int .i64 64, .int .i64 2, .int .i64 16, .int .i64 18, .int .i64 19, .int .i64 4, .int .i64 23, .int .i64 64, .int .i64 (E : Int), .int .i64 (S0 : Int), .int .i64 (t : Int)] 65)).alloc (.cells #[.slice none 0 0] 26)) #[.int .i64 0] 3
    exact this
  have B8 : Hid (Below u1.heap.size u1 W8) := by
    have : Below u1.heap.size u1 W8 := by rw [hW8]; exact (((Below.refl u1.heap.size u1).alloc (Nat.le_refl _) _).alloc (by simp) _).alloc (by simp; omega) _
    exact this
  have R0 : Hid (Box W8 u1.heap.size #[.pointer (some ⟨dg, 0, none⟩), .int .i64 64, .int .i64 2, .int .i64 16, .int .i64 18, .int .i64 19, .int .i64 4, .int .i64 23, .int .i64 64, .int .i64 (E : Int), .int .i64 (S0 : Int), .int .i64 (t : Int)] 65) := r0
  have cR := reader_at W8 dg 64 (E : Int) (S0 : Int) (t : Int)
  unfold rC at cR
  have g0 := r0.cell 0
  have g1 := r0.cell 1
  have g2 := r0.cell 2
  have g3 := r0.cell 3
  have g4 := r0.cell 4
  have g5 := r0.cell 5
  have g6 := r0.cell 6
  have g7 := r0.cell 7
  have g8 := r0.cell 8
  have g9 := r0.cell 9
  have g10 := r0.cell 10
  have g11 := r0.cell 11
  simp only [List.getElem?_toArray, List.getElem?_cons_zero, List.getElem?_cons_succ] at g0 g1 g2 g3 g4 g5 g6 g7 g8 g9 g10 g11
  clear r0 s1 s2 y0 y1
  have hW8' := hW8
  rw [hW8] at g0 g1 g2 g3 g4 g5 g6 g7 g8 g9 g10 g11
  gi_wp2_with fail
  refine ⟨trivial, ?_⟩
  rw [← hW8]
  refine ((callsIn_wide (n := 3)).2 cR).mono ?_
  rintro r u2 ⟨rfl, hbr, b2⟩
  clear cR g0 g1 g2 g3 g4 g5 g6 g7 g8 g9 g10 g11 f0 f1 f2 f3 f4 f5 f6 h0 h1 h2 h3 hW8 hW8' hW5
  gi_wp2_with fail
  have hz8 := s3.out
  have hz5 := HZ.out
  have e8 := b2.size
  have e1 := b1.size
  have BW8 : Below w.heap.size w W8 := (HB5.out.1.trans (b1.mono HB5.out.1.size)).trans (B8.out.mono (by omega))
  have BU2 : Below w.heap.size w u2 := BW8.trans (b2.mono BW8.size)
  have q1 : Box u2 (u1.heap.size + 1) #[.slice none 0 0] 26 := r1.out.below b2
  have q2 : Box u2 (u1.heap.size + 2) #[.int .i64 0] 3 := r2.out.below b2
  have hq3 : W8.heap.size < u2.heap.size := hbr.lt
  have hT : Tl w.heap.size (u1.heap.size + 1) (u1.heap.size + 2) W8.heap.size u2 := by
    refine ⟨hq3, fun k hk => ?_⟩
    rcases hk with rfl | rfl | ⟨v, h1, h2⟩
    · exact ⟨by omega, by omega, by omega⟩
    · exact ⟨by omega, by omega, by omega⟩
    · rw [q1.cell 0] at h1
      simp at h1
      subst h1
      cases h2
  have hR0 : R3 w 0 u2 := by
    obtain ⟨_, p2, p3, p4⟩ := HB5.out
    have bb5 := b1.trans ((B8.out.trans (b2.mono B8.out.size)).mono e1)
    exact ⟨p2.below bb5, p3.below bb5, p4.below bb5, BU2⟩
  have hSt := stops_down (4 - 1) (by omega) W8.heap.size dg D F t E S0 64 ht hnb hgn u2 ((hd).kept (fun i hi => BU2.block i (hd.flt i hi)) BU2.size) hbr
  clear hT q1 q2 hz8 hz5 e8 e1 hq3
  refine wpIn_rangeFunc_ownH (α := Unit) rfl (by omega) (gf := 48) (lb := #[.pointer (some ⟨W8.heap.size, 0, none⟩)]) rfl trivial (enters_of Tryz.func48 (by kernel_rfl) rfl) hSt (fun _ _ => trivial) (fun _ _ _ _ _ _ _ _ => trivial) (Below.refl _ _) (fun _ => rfl)
    (fun pre W => pre = [] ∧ R3 w 0 W) (fun c pre W => c = .ret ∧ R3 w 6 W)
    (fun pre A C row hs hg hr => ⟨hs.1, hs.2.own BU2.size hg hr⟩) (fun c pre A C row hs hg hr => ⟨hs.1, hs.2.own BU2.size hg hr⟩) ⟨rfl, hR0⟩
    (fun _ a' _ => ∃ Bx, a' = ({ tmps := #[.pointer (some ⟨dg, 0, none⟩), .agg #[.int .i64 64, .int .i64 2, .int .i64 16, .int .i64 18, .int .i64 19, .int .i64 4, .int .i64 23], .agg #[.int .i64 64, .int .i64 (E : Int), .int .i64 (S0 : Int), .int .i64 (t : Int)], undef, .pointer (some ⟨w.heap.size, 0, none⟩), .pointer (some ⟨w.heap.size + 1, 0, none⟩), .pointer (some ⟨w.heap.size + 1 + 1, 0, none⟩), .pointer (some ⟨w.heap.size + 1 + 1 + 1, 0, none⟩), .pointer (some ⟨w.heap.size + 1 + 1 + 1 + 1, 0, none⟩), .int .i64 0, .pointer (some ⟨u1.heap.size, 0, none⟩), .pointer (some ⟨u1.heap.size + 1, 0, none⟩), .pointer (some ⟨u1.heap.size + 1 + 1, 0, none⟩), .pointer (some ⟨Bx, 0, none⟩), .int .i64 6, .pointer (some ⟨dg, 0, none⟩), .agg #[.int .i64 64, .int .i64 2, .int .i64 16, .int .i64 18, .int .i64 19, .int .i64 4, .int .i64 23], .agg #[.int .i64 64, .int .i64 (E : Int), .int .i64 (S0 : Int), .int .i64 (t : Int)], .int .i64 0, .int .i64 0, .bool false, undef, .pointer (some ⟨dg, 0, none⟩), .agg #[.int .i64 64, .int .i64 2, .int .i64 16, .int .i64 18, .int .i64 19, .int .i64 4, .int .i64 23], .agg #[.int .i64 64, .int .i64 (E : Int), .int .i64 (S0 : Int), .int .i64 (t : Int)], .agg #[.pointer (some ⟨dg, 0, none⟩), .int .i64 64, .int .i64 2, .int .i64 16, .int .i64 18, .int .i64 19, .int .i64 4, .int .i64 23, .int .i64 64, .int .i64 (E : Int), .int .i64 (S0 : Int), .int .i64 (t : Int)], .agg #[.pointer (some ⟨dg, 0, none⟩), .int .i64 64, .int .i64 2, .int .i64 16, .int .i64 18, .int .i64 19, .int .i64 4, .int .i64 23, .int .i64 64, .int .i64 (E : Int), .int .i64 (S0 : Int), .int .i64 (t : Int)], .func (.func 48) #[] #[.pointer (some ⟨W8.heap.size, 0, none⟩)], .agg #[.int .i64 0, .int .i64 0, .slice none 0 0], .int .i64 6, undef, undef, undef, undef, undef, undef, undef, undef, undef, undef, undef, undef, undef, undef, undef, undef, undef], defers := [] } : Act)) (fun _ _ _ A C row hs hg hr => hs) ?assign ?body ?done ?stop
  case assign =>
    rintro l pre x W K ⟨hp, hi⟩ hK
    have al := (Below.refl W.heap.size W).alloc (Nat.le_refl _) (.cells #[.int .i64 0, .int .i64 0, .slice none 0 0] 40)
    gi_wp2_with fail
    exact hK _ _ ((KeepsOthers.alloc _ _).from _) trivial ⟨hp, hi.below al⟩ ⟨W.heap.size, rfl⟩
  case body =>
    rintro l pre x a' W hl ⟨r, hr⟩ ⟨hp, hi⟩ ⟨Bx, rfl⟩ _
    have g2 := hi.a.frozen 0
    have g3 := hi.b.frozen 0
    have g4 := hi.c.frozen 0
    have k2 := hi.a.cell 0
    have k3 := hi.b.cell 0
    have k4 := hi.c.cell 0
    simp at k2 k3 k4
    have hP := hi.put
    gi_wp2_with fail
    exact ⟨((KeepsOthers.setCell _ _ _).trans ((KeepsOthers.setCell _ _ _).trans (KeepsOthers.setCell _ _ _))).from _, rfl, hP⟩
  case done =>
    rintro D' xs W hD rfl ⟨hp, _⟩
    cases hp
  case stop =>
    rintro D' c pre W hD rfl ⟨rfl, hi⟩ hK
    gi_wp2
    refine ⟨by simp, .inl ⟨_, _, rfl, run_takeDeferred hK, ?_⟩⟩
    have k2 := hi.a.cell 0
    have k3 := hi.b.cell 0
    have k4 := hi.c.cell 0
    simp at k2 k3 k4
    have c2 := cell_kept k2 (grownBy_putObj' _ D' (.deferred none)) (fun r e => by cases e; exact ⟨_, hK, rfl⟩)
    have c3 := cell_kept k3 (grownBy_putObj' _ D' (.deferred none)) (fun r e => by cases e; exact ⟨_, hK, rfl⟩)
    have c4 := cell_kept k4 (grownBy_putObj' _ D' (.deferred none)) (fun r e => by cases e; exact ⟨_, hK, rfl⟩)
    refine ⟨.tuple #[.slice none 0 0, .int .i64 0, .int .i64 6], ?_, rfl, ?_⟩
    · simp [results, Tryz.f6, go_sem, c2, c3, c4]
    · exact hi.bel.grown (grownBy_putObj' _ D' (.deferred none)) hi.bel.size (fun k e => by cases e; have := BU2.size; omega)
end Go.Proofs.YtkhejjddmbegaaaGreat.S

/-
  What Groups answers where there is no disk.
-/
namespace Go.Proofs.YtkhejjddmbegaaaGreat.S
open Go.RowKit Go.Shelf
open Go.Proofs.YtkhejjddmbegaaaGreat.Dk (Box)
attribute [local go_sem] Oper.semAt_some

theorem size_nil (w : World) : Calls Tryz.prog 45 #[.pointer none] w fun r w' => r = .returned (.int .i64 0) ∧ w = w' := by
  go_enter Tryz.func45, Tryz.ntmps45
  go_wp2_with fail
  refine (Dk.isMade_none _).mono ?_
  rintro r u1 ⟨rfl, rfl⟩
  go_wp2_with fail
  go_ret
  exact ⟨rfl, rfl⟩
theorem ahead_nil (w : World) (B E S t : Int) : Calls Tryz.prog 24 #[.pointer none, .agg lay, .agg #[.int .i64 B, .int .i64 E, .int .i64 S, .int .i64 t]] w fun r w' => r = .returned (.int .i64 1) ∧ Below w.heap.size w w' := by
  have B0 := ((Below.refl w.heap.size w).alloc (Nat.le_refl _) (.cells lay 30)).alloc (by simp) (.cells #[.int .i64 B, .int .i64 E, .int .i64 S, .int .i64 t] 33)
  unfold lay at *
  go_enter Tryz.func24, Tryz.ntmps24
  go_wp2_with fail
  refine (size_nil _).mono ?_
  rintro r u1 ⟨rfl, rfl⟩
  go_wp2_with fail
  go_ret
  exact ⟨rfl, B0⟩
set_option maxRecDepth 100000 in
set_option maxHeartbeats 2000000 in
theorem groups_nil (w : World) (B E S t : Int) :
    Calls Tryz.prog 6 #[.pointer none, .agg lay, .agg #[.int .i64 B, .int .i64 E, .int .i64 S, .int .i64 t]] w fun r w' => r = .returned (.tuple #[.slice none 0 0, .int .i64 0, .int .i64 1]) ∧ Below w.heap.size w w' := by
  refine (callsIn_wide (n := 4)).1 ?_
  have e0 : ∃ W5, W5 = (((((w.alloc (.cells #[.int .i64 64, .int .i64 2, .int .i64 16, .int .i64 18, .int .i64 19, .int .i64 4, .int .i64 23] 30)).alloc (.cells #[.int .i64 B, .int .i64 E, .int .i64 S, .int .i64 t] 33)).alloc (.cells #[.slice none 0 0] 26)).alloc (.cells #[.int .i64 0] 3)).alloc (.cells #[.int .i64 0] 23)) := ⟨_, rfl⟩
  obtain ⟨W5, hW5⟩ := e0
  have z1 : (w.alloc (.cells #[.int .i64 64, .int .i64 2, .int .i64 16, .int .i64 18, .int .i64 19, .int .i64 4, .int .i64 23] 30)).heap.size = w.heap.size + 1 := by simp
  have z2 : ((w.alloc (.cells #[.int .i64 64, .int .i64 2, .int .i64 16, .int .i64 18, .int .i64 19, .int .i64 4, .int .i64 23] 30)).alloc (.cells #[.int .i64 B, .int .i64 E, .int .i64 S, .int .i64 t] 33)).heap.size = w.heap.size + 2 := by simp
  have z3 : (((w.alloc (.cells #[.int .i64 64, .int .i64 2, .int .i64 16, .int .i64 18, .int .i64 19, .int .i64 4, .int .i64 23] 30)).alloc (.cells #[.int .i64 B, .int .i64 E, .int .i64 S, .int .i64 t] 33)).alloc (.cells #[.slice none 0 0] 26)).heap.size = w.heap.size + 3 := by simp
  have z4 : ((((w.alloc (.cells #[.int .i64 64, .int .i64 2, .int .i64 16, .int .i64 18, .int .i64 19, .int .i64 4, .int .i64 23] 30)).alloc (.cells #[.int .i64 B, .int .i64 E, .int .i64 S, .int .i64 t] 33)).alloc (.cells #[.slice none 0 0] 26)).alloc (.cells #[.int .i64 0] 3)).heap.size = w.heap.size + 4 := by simp
  have z5 : W5.heap.size = w.heap.size + 5 := by rw [hW5]; simp
  have bx0 : Box W5 w.heap.size #[.int .i64 64, .int .i64 2, .int .i64 16, .int .i64 18, .int .i64 19, .int .i64 4, .int .i64 23] 30 := by rw [hW5]; exact ((((Dk.Box.new w #[.int .i64 64, .int .i64 2, .int .i64 16, .int .i64 18, .int .i64 19, .int .i64 4, .int .i64 23] 30).alloc _).alloc _).alloc _).alloc _
  have bx1 : Box W5 (w.heap.size + 1) #[.int .i64 B, .int .i64 E, .int .i64 S, .int .i64 t] 33 := by rw [hW5, ← z1]; exact (((Dk.Box.new (w.alloc (.cells #[.int .i64 64, .int .i64 2, .int .i64 16, .int .i64 18, .int .i64 19, .int .i64 4, .int .i64 23] 30)) #[.int .i64 B, .int .i64 E, .int .i64 S, .int .i64 t] 33).alloc _).alloc _).alloc _
  have bx2 : Box W5 (w.heap.size + 2) #[.slice none 0 0] 26 := by rw [hW5, ← z2]; exact ((Dk.Box.new ((w.alloc (.cells #[.int .i64 64, .int .i64 2, .int .i64 16, .int .i64 18, .int .i64 19, .int .i64 4, .int .i64 23] 30)).alloc (.cells #[.int .i64 B, .int .i64 E, .int .i64 S, .int .i64 t] 33)) #[.slice none 0 0] 26).alloc _).alloc _
  have bx3 : Box W5 (w.heap.size + 3) #[.int .i64 0] 3 := by rw [hW5, ← z3]; exact (Dk.Box.new (((w.alloc (.cells #[.int .i64 64, .int .i64 2, .int .i64 16, .int .i64 18, .int .i64 19, .int .i64 4, .int .i64 23] 30)).alloc (.cells #[.int .i64 B, .int .i64 E, .int .i64 S, .int .i64 t] 33)).alloc (.cells #[.slice none 0 0] 26)) #[.int .i64 0] 3).alloc _
  have bx4 : Box W5 (w.heap.size + 4) #[.int .i64 0] 23 := by rw [hW5, ← z4]; exact Dk.Box.new ((((w.alloc (.cells #[.int .i64 64, .int .i64 2, .int .i64 16, .int .i64 18, .int .i64 19, .int .i64 4, .int .i64 23] 30)).alloc (.cells #[.int .i64 B, .int .i64 E, .int .i64 S, .int .i64 t] 33)).alloc (.cells #[.slice none 0 0] 26)).alloc (.cells #[.int .i64 0] 3)) #[.int .i64 0] 23
  have B5 : Below w.heap.size w W5 := by rw [hW5]; exact (((((Below.refl w.heap.size w).alloc (Nat.le_refl _) _).alloc (by simp) _).alloc (by simp; omega) _).alloc (by simp; omega) _).alloc (by simp; omega) _
  have hA := ahead_nil W5 B E S t
  unfold lay at hA ⊢
  refine callsIn_of_wp_marks Tryz.func6 rfl trivial ?_ rfl
  simp only [Tryz.ntmps6, List.size_toArray, List.length_cons, List.length_nil, Nat.reduceAdd, Nat.reduceSub, Array.replicate_succ, Array.replicate_zero, List.push_toArray, List.append_toArray, List.nil_append, List.cons_append]
  have HZ : Hid (W5.heap.size = w.heap.size + 5) := z5
  clear z1 z2 z3 z4 z5
  have HB5 : Hid (Below w.heap.size w W5 ∧ Box W5 (w.heap.size + 2) #[.slice none 0 0] 26 ∧ Box W5 (w.heap.size + 3) #[.int .i64 0] 3 ∧ Box W5 (w.heap.size + 4) #[.int .i64 0] 23) := ⟨B5, bx2, bx3, bx4⟩
  have HD : Hid (∀ u, Below W5.heap.size W5 u → Box u w.heap.size #[.int .i64 64, .int .i64 2, .int .i64 16, .int .i64 18, .int .i64 19, .int .i64 4, .int .i64 23] 30 ∧ Box u (w.heap.size + 1) #[.int .i64 B, .int .i64 E, .int .i64 S, .int .i64 t] 33) := fun u bu => ⟨bx0.below bu, bx1.below bu⟩
  have f0 := bx0.cell 0
  have f1 := bx0.cell 1
  have f2 := bx0.cell 2
  have f3 := bx0.cell 3
  have f4 := bx0.cell 4
  have f5 := bx0.cell 5
  have f6 := bx0.cell 6
  have h0 := bx1.cell 0
  have h1 := bx1.cell 1
  have h2 := bx1.cell 2
  have h3 := bx1.cell 3
  simp only [List.getElem?_toArray, List.getElem?_cons_zero, List.getElem?_cons_succ] at f0 f1 f2 f3 f4 f5 f6 h0 h1 h2 h3
  clear B5 bx0 bx1 bx2 bx3 bx4
  have HW : Hid (∃ W, W = W5) := ⟨_, rfl⟩
  rw [hW5] at hA f0 f1 f2 f3 f4 f5 f6 h0 h1 h2 h3
  gi_wp2_with fail
  refine ⟨trivial, ?_⟩
  refine ((callsIn_wide (n := 3)).2 hA).mono ?_
  rintro r u1 ⟨rfl, b1⟩
  rw [← hW5] at b1
  clear hA f0 f1 f2 f3 f4 f5 f6 h0 h1 h2 h3
  have x2 := HB5.out.2.1.below b1
  have x3 := HB5.out.2.2.1.below b1
  have x4 := HB5.out.2.2.2.below b1
  have B6 := HB5.out.1.trans (b1.mono HB5.out.1.size)
  have g2 := x2.frozen 0
  have g3 := x3.frozen 0
  have g4 := x4.frozen 0
  have k2 := x2.cell 0
  have k3 := x3.cell 0
  have k4 := x4.cell 0
  simp at k2 k3 k4
  have n23 : w.heap.size + 1 + 1 ≠ w.heap.size + 1 + 1 + 1 := by omega
  have n24 : w.heap.size + 1 + 1 ≠ w.heap.size + 1 + 1 + 1 + 1 := by omega
  have n34 : w.heap.size + 1 + 1 + 1 ≠ w.heap.size + 1 + 1 + 1 + 1 := by omega
  have x2a := ((x2.store 0 (.slice none 0 0)).set_other (b := w.heap.size + 1 + 1 + 1) (by omega) 0 (.int .i64 0)).set_other (b := w.heap.size + 1 + 1 + 1 + 1) (by omega) 0 (.int .i64 1)
  have x3a := ((x3.set_other (b := w.heap.size + 1 + 1) (by omega) 0 (.slice none 0 0)).store 0 (.int .i64 0)).set_other (b := w.heap.size + 1 + 1 + 1 + 1) (by omega) 0 (.int .i64 1)
  have x4a := ((x4.set_other (b := w.heap.size + 1 + 1) (by omega) 0 (.slice none 0 0)).set_other (b := w.heap.size + 1 + 1 + 1) (by omega) 0 (.int .i64 0)).store 0 (.int .i64 1)
  have c2 := x2a.cell 0
  have c3 := x3a.cell 0
  have c4 := x4a.cell 0
  simp at c2 c3 c4
  have BV := ((B6.setCell (p := ⟨w.heap.size + 1 + 1, 0, none⟩) (by show w.heap.size ≤ w.heap.size + 1 + 1; omega) (.slice none 0 0)).setCell (p := ⟨w.heap.size + 1 + 1 + 1, 0, none⟩) (by show w.heap.size ≤ w.heap.size + 1 + 1 + 1; omega) (.int .i64 0)).setCell (p := ⟨w.heap.size + 1 + 1 + 1 + 1, 0, none⟩) (by show w.heap.size ≤ w.heap.size + 1 + 1 + 1 + 1; omega) (.int .i64 1)
  gi_wp2_with fail
  refine ⟨.tuple #[.slice none 0 0, .int .i64 0, .int .i64 1], ?_, rfl, BV⟩
  simp [results, Tryz.f6, go_sem, c2, c3, c4]
end Go.Proofs.YtkhejjddmbegaaaGreat.S

/-
  The chapter's examples: the law's walk.
-/
namespace Go.Proofs.YtkhejjddmbegaaaGreat.S
open Go.RowKit
open Go.Proofs.YtkhejjddmbegaaaGreat.Dk (Box)

theorem Sw.disk2 {w u : World} {g dg e t : Nat} {s : W9} {qs : List G9} {a : Option Addr} {n c : Nat} (h : Sw w g dg e t s (.slice a n c) qs u) :
    ∃ Fd, Dk.IsDisk u dg s.D Fd ∧ (∀ i, Fd i → w.heap.size ≤ i) ∧ ∀ u', Dk.Upd Fd u u' → AllI u' a (iss9 s.gs) := by
  obtain ⟨F, ⟨⟨vs, Fd, _, hd, _, _, _, h6⟩, _⟩, im, hv, hF⟩ := h.ex
  refine ⟨Fd, hd, fun i hi => hF i (h6 i hi), fun u' hu h0 => ?_⟩
  have hi := h.iss
  have hl : 0 < qs.length := by rw [hi] at h0; simpa using h0
  have hrow : u'.ownsRow w.heap.size 38 1 (.slice a n c) qs.length (alC qs) := J.owns_kept h.row (fun k hk' => hu.block k (h.row.lt k hk').2 (fun hf => hv k hk' (h6 k hf)))
  obtain ⟨b, rfl, _, _, hc⟩ := Rc.owns_cells hrow hl
  refine ⟨b, 0, rfl, fun j hj => ?_⟩
  have hjq : j < qs.length := by rw [hi] at hj; simpa using hj
  have e : (iss9 s.gs)[j] = im9 (qs[j]).z (qs[j]).n := by simp only [hi, List.getElem_map]
  rw [e, im9_length]
  refine ⟨(qs[j]).al, (qs[j]).cl, ?_, ((im _ (List.getElem_mem hjq)).keep (fun k hk' hn => hu.block k hk' (fun hf => hn (.inl (h6 k hf))))).imgs⟩
  rw [Nat.zero_add, hc _ (by omega)]
  simp [alC, hjq]
theorem AllI.below2 {w w' : World} {a : Option Addr} {ls : List (List (Int × List UInt8))} (h : AllI w a ls) (b : Below w.heap.size w w') : AllI w' a ls := fun h0 => by
  obtain ⟨g, o, rfl, hc⟩ := h h0
  refine ⟨g, o, rfl, fun j hj => ?_⟩
  obtain ⟨al, cl, h1, h2⟩ := hc j hj
  exact ⟨al, cl, (b.cell (p := ⟨g, o + j, none⟩) (block_lt_of_cell h1)).trans h1, h2.below b⟩
theorem Sw.cap {w u : World} {g dg e t : Nat} {s : W9} {qs : List G9} {a : Option Addr} {n c : Nat} (h : Sw w g dg e t s (.slice a n c) qs u) : n ≤ c ∧ c ≤ maxLen := by
  rcases h.row.2 with ⟨h1, h2⟩ | ⟨g', cap, cur, h1, _, _, h2, h3, _⟩
  · injection h1 with h4 h5 h6
    subst h5 h6
    exact ⟨Nat.le_refl _, by unfold maxLen; omega⟩
  · injection h1 with h4 h5 h6
    subst h5 h6
    exact ⟨h2, h3⟩
/-- the supers that are refused -/
def sups : List (Int × Int × Int × Int) := [(65, 1, 1, 0), (64, 0, 1, 0), (64, 1, 0, 0), (64, 1, 1, 16), (64, 1, 1, (-1)), (64, 8388609, 1, 0), (64, 1, 549755813889, 0)]
theorem sups_no : ∀ q ∈ sups, ¬ goodS q.1 q.2.1 q.2.2.1 q.2.2.2 := by
  intro q hq
  simp only [sups, List.mem_cons, List.not_mem_nil, or_false] at hq
  unfold goodS
  rcases hq with rfl | rfl | rfl | rfl | rfl | rfl | rfl <;> (dsimp only; omega)
theorem sups_cell {V : World} {g : Nat} (h : Box V g #[.int .i64 65, .int .i64 1, .int .i64 1, .int .i64 0, .int .i64 64, .int .i64 0, .int .i64 1, .int .i64 0, .int .i64 64, .int .i64 1, .int .i64 0, .int .i64 0, .int .i64 64, .int .i64 1, .int .i64 1, .int .i64 16, .int .i64 64, .int .i64 1, .int .i64 1, .int .i64 (-1), .int .i64 64, .int .i64 8388609, .int .i64 1, .int .i64 0, .int .i64 64, .int .i64 1, .int .i64 549755813889, .int .i64 0] 33) (k : Nat) (hk : k < 7) : ∃ q ∈ sups, V.cell? ⟨g, k * 4, none⟩ = some (.int .i64 q.1) ∧ V.cell? ⟨g, k * 4 + 1, none⟩ = some (.int .i64 q.2.1) ∧ V.cell? ⟨g, k * 4 + 2, none⟩ = some (.int .i64 q.2.2.1) ∧ V.cell? ⟨g, k * 4 + 3, none⟩ = some (.int .i64 q.2.2.2) := by
  have e : k = 0 ∨ k = 1 ∨ k = 2 ∨ k = 3 ∨ k = 4 ∨ k = 5 ∨ k = 6 := by omega
  rcases e with rfl | rfl | rfl | rfl | rfl | rfl | rfl
  · exact ⟨(65, 1, 1, 0), by simp [sups], h.cell 0, h.cell 1, h.cell 2, h.cell 3⟩
  · exact ⟨(64, 0, 1, 0), by simp [sups], h.cell 4, h.cell 5, h.cell 6, h.cell 7⟩
  · exact ⟨(64, 1, 0, 0), by simp [sups], h.cell 8, h.cell 9, h.cell 10, h.cell 11⟩
  · exact ⟨(64, 1, 1, 16), by simp [sups], h.cell 12, h.cell 13, h.cell 14, h.cell 15⟩
  · exact ⟨(64, 1, 1, (-1)), by simp [sups], h.cell 16, h.cell 17, h.cell 18, h.cell 19⟩
  · exact ⟨(64, 8388609, 1, 0), by simp [sups], h.cell 20, h.cell 21, h.cell 22, h.cell 23⟩
  · exact ⟨(64, 1, 549755813889, 0), by simp [sups], h.cell 24, h.cell 25, h.cell 26, h.cell 27⟩

set_option maxRecDepth 100000 in
set_option maxHeartbeats 4000000 in
theorem numbers_walk (w : World) : Calls Tryz.prog 3 #[] w fun r w' => r = .returned (.bool true) ∧ Below w.heap.size w w' := by
  have L0 : Hid (∀ u, Calls Tryz.prog 7 #[] u fun r w' => r = .returned (.agg #[.int .i64 64, .int .i64 2, .int .i64 16, .int .i64 18, .int .i64 19, .int .i64 4, .int .i64 23]) ∧ Below u.heap.size u w') := fun u => layout64_at u
  go_enter Tryz.func3, Tryz.ntmps3
  go_wp2_with fail
  refine Calls.mono (Dk.new_at 64 w (by decide) (by decide)) ?_
  rintro r u1 ⟨dx, rfl, F, hdx, hFx, b1⟩
  go_wp2_with fail
  refine Calls.mono (L0.out _) ?_
  rintro r u2 ⟨rfl, b2⟩
  have B2 := b1.trans (b2.mono b1.size)
  have cG := told_none (hdx.below b2) rfl rfl (by decide) 14 1 1 (by decide) (by decide) (by decide) (new_no 14 1 1)
  unfold lay at cG
  clear hdx hFx b1 b2
  go_wp2_with fail
  refine Calls.mono cG ?_
  rintro r u3 ⟨a3, c3, rfl, b3⟩
  have B3 := B2.trans (b3.mono B2.size)
  clear cG b3 B2
  have al := (Below.refl u3.heap.size u3).alloc (Nat.le_refl _) (.cells #[.int .i64 0, .int .i64 1] 3)
  have cW := written_at (u3.alloc (.cells #[.int .i64 0, .int .i64 1] 3)) 1 14 (some ⟨u3.heap.size, 0, none⟩) 2 2 [0, 1] rfl (rdI_new u3 [0, 1]) (by decide) (by decide)
  go_wp2_with fail
  refine Calls.mono cW ?_
  rintro r u4 ⟨g, dg, v, qs, rfl, hS⟩
  rw [show min 2 12 = 2 from rfl] at hS
  obtain ⟨av, cv, rfl⟩ := Rc.owns_shape hS.row
  have hq : qs.length = 2 := by rw [hS.len, st14.1]; rfl
  rw [hq] at hS ⊢
  obtain ⟨hcap1, hcap2⟩ := hS.cap
  have bS := al.trans (hS.bel.mono al.size)
  have B4 := B3.trans (bS.mono B3.size)
  obtain ⟨Fd, hd, hFd, hAll⟩ := hS.disk2
  rw [st14.1] at hAll
  obtain ⟨k1, k2, k3, k4, _⟩ := ok9 1 14 [0, 1] 2 (by decide)
  have h14 := d1_14
  have HFd : Hid (∀ i, Fd i → w.heap.size ≤ i) := fun i hi => by
    have h1 := hFd i hi
    have h2 := B3.size
    have h3 : (u3.alloc (.cells #[.int .i64 0, .int .i64 1] 3)).heap.size = u3.heap.size + 1 := by simp
    omega
  generalize (st9 1 14 [0, 1] 2).D = D at hd k1 k2 k3 k4 h14
  have HD : Hid (Dk.IsDisk u4 dg D Fd) := hd
  have HAll : Hid (∀ u', Dk.Upd Fd u4 u' → AllI u' av (iss9 [(1, 0), (2, 1)])) := hAll
  have HK : Hid (J.Calm D ∧ D.nb = 64 ∧ D.uf.length ≤ 12 ∧ D.n ≤ 12) := ⟨k1, k2, k3, k4⟩
  have H14 : Hid (D14 D) := h14
  clear hS al cW hq hd hFd hAll k1 k2 k3 k4 h14 bS
  unfold maxLen at hcap2
  -- number 2, from place 0 on
  go_wp2_with fail
  refine Calls.mono (L0.out _) ?_
  rintro r u5 ⟨rfl, b5⟩
  obtain ⟨s1, s2, s3⟩ := H14.out.second
  have cG := told_one (HD.out.below b5) HK.out.2.1 HK.out.1.1 (by have := HK.out.2.2.1; omega) 0 1 2 (by decide) (by decide) (by decide) 2 s1 s2 s3
  unfold lay at cG
  clear s1 s2 s3
  go_wp2_with fail
  refine Calls.mono cG ?_
  rintro r u6 ⟨g6, c6, rfl, hc6, _, b6⟩
  have B56 : Below u4.heap.size u4 u6 := b5.trans (b6.mono b5.size)
  clear cG
  -- number 2, from place 14 on
  go_wp2_with fail
  refine Calls.mono (L0.out _) ?_
  rintro r u7 ⟨rfl, b7⟩
  have B7 : Below u4.heap.size u4 u7 := B56.trans (b7.mono B56.size)
  have cG := told_none (HD.out.below B7) HK.out.2.1 HK.out.1.1 (by have := HK.out.2.2.1; omega) 14 1 2 (by decide) (by decide) (by decide) H14.out.no1
  unfold lay at cG
  go_wp2_with fail
  refine Calls.mono cG ?_
  rintro r u8 ⟨a8, c8, rfl, b8⟩
  have B8 : Below u4.heap.size u4 u8 := B7.trans (b8.mono B7.size)
  clear cG
  -- another epoch
  go_wp2_with fail
  refine Calls.mono (L0.out _) ?_
  rintro r u9 ⟨rfl, b9⟩
  have B9 : Below u4.heap.size u4 u9 := B8.trans (b9.mono B8.size)
  have cG := told_none (HD.out.below B9) HK.out.2.1 HK.out.1.1 (by have := HK.out.2.2.1; omega) 14 2 1 (by decide) (by decide) (by decide) H14.out.no2
  unfold lay at cG
  go_wp2_with fail
  refine Calls.mono cG ?_
  rintro r u10 ⟨a10, c10, rfl, b10⟩
  have B10 : Below u4.heap.size u4 u10 := B9.trans (b10.mono B9.size)
  have hc7 : u10.cell? ⟨g6, 1, none⟩ = some (.int .i64 2) := by
    have l6 := block_lt_of_cell hc6
    have b67 : Below u6.heap.size u6 u10 := b7.trans ((b8.trans ((b9.trans (b10.mono b9.size)).mono b8.size)).mono b7.size)
    exact (b67.cell (p := ⟨g6, 1, none⟩) l6).trans hc6
  clear cG hc6 b5 b6 b7 b8 b9 b10 B56 B7 B8 B9
  have cR := Dk.read_at (HD.out.below B10) 3 (by rw [HK.out.2.1]; decide) HK.out.1.1 (by have := HK.out.2.2.1; omega)
  have HLn : Hid ((D.stand 3).length = 4096) := Dk.stand_length HD.out.ok 3 (by rw [HK.out.2.1]; decide)
  go_wp2_with fail
  refine Calls.mono cR ?_
  rintro r u11 ⟨gr, cr, rfl, hgr, hrow, b11⟩
  clear cR hc7
  have hj : 512 < (D.stand 3).length := by rw [HLn.out]; decide
  have hcb : u11.cell? ⟨gr, 512, none⟩ = some (.int .u8 ((D.stand 3)[512].toNat : Int)) ∧ u11.frozen? ⟨gr, 512, none⟩ = false := Rc.RowB.cellAt hrow hj
  obtain ⟨hcb, hfb⟩ := hcb
  obtain ⟨y, hy⟩ : ∃ y, y = (D.stand 3)[512]'hj := ⟨_, rfl⟩
  have HYe : Hid ((D.stand 3)[512]? = some y) := by show _ = _; rw [hy, List.getElem?_eq_getElem hj]
  rw [← hy] at hcb
  obtain ⟨vv, hv1, hv2⟩ := xor_one y
  have HV : Hid (vv ≠ y) := hv2
  have HRow : Hid (Dk.RowB u11 gr cr (D.stand 3)) := hrow
  have HJ5 : Hid (512 < (D.stand 3).length) := hj
  have hcr : 4096 ≤ cr ∧ cr ≤ maxLen := by
    obtain ⟨cur, _, h1, h2, _⟩ := HRow.out
    have := HLn.out
    omega
  obtain ⟨hcr1, hcr2⟩ := hcr
  unfold maxLen at hcr2
  have B11 : Below u4.heap.size u4 u11 := B10.trans (b11.mono B10.size)
  have hgr4 : u4.heap.size ≤ gr := Nat.le_trans B10.size hgr
  have hrow2 : Dk.RowB (u11.setCell ⟨gr, 512, none⟩ (.int .u8 (vv.toNat : Int))) gr cr ((D.stand 3).set 512 vv) := Rc.RowB.byte (w := u11) HRow.out 512 HJ5.out vv
  have B12 : Below u4.heap.size u4 (u11.setCell ⟨gr, 512, none⟩ (.int .u8 (vv.toNat : Int))) := B11.setCell (p := ⟨gr, 512, none⟩) hgr4 _
  obtain ⟨we1, we2⟩ := write_calm2 HK.out.1 3 (by rw [HK.out.2.1]; decide) ((D.stand 3).set 512 vv) (by rw [List.length_set]; exact HLn.out)
  have cWr := Dk.write_at (HD.out.below B12) 3 (some ⟨gr, 0, none⟩) 4096 cr ((D.stand 3).set 512 vv) (by rw [List.length_set]; exact HLn.out) ⟨by have := HK.out.2.2.1; omega, by have := HK.out.2.2.2; omega⟩ hrow2.rd (fun ad e => by cases e; exact fun hf => by have := HD.out.flt gr hf; omega)
  rw [show ((3 : Nat) : Int) = 3 from rfl] at we1 we2
  rw [we2, we1] at cWr
  clear hrow hy hj hv2 we1 we2 hrow2
  go_wp2_with fail
  refine Calls.mono cWr ?_
  rintro r u12 ⟨rfl, ⟨F', hd12, hF'⟩, hu12⟩
  have hU : Dk.Upd Fd u4 u12 := (Dk.Upd.of_below B12).trans hu12 (fun i hi => .inl hi)
  have hA12 := HAll.out u12 hU
  have B13 : Below w.heap.size w u12 := B4.trans (hU.below HFd.out B4.size)
  obtain ⟨t1, t2, t3, t4⟩ := H14.out.turned (D.n + 1) vv HLn.out (by rw [HYe.out]; intro e; injection e with e; exact HV.out e.symm)
  have HD12 : Hid (Dk.IsDisk u12 dg { D with uf := D.uf ++ [(3, (D.stand 3).set 512 vv)], n := D.n + 1 } F') := hd12
  have HA12 : Hid (AllI u12 av (iss9 [(1, 0), (2, 1)])) := hA12
  clear cWr hd12 hF' hu12 hU hA12 hcb hfb hv1 B12 B11 hgr hgr4 b11 B10 B4 HAll HRow
  go_wp2_with fail
  refine Calls.mono (L0.out _) ?_
  rintro r u13 ⟨rfl, b13⟩
  have cG := told_one (HD12.out.below b13) HK.out.2.1 HK.out.1.1 (by show (D.uf ++ [_]).length ≤ 1000000; rw [List.length_append]; have := HK.out.2.2.1; simp; omega) 14 1 1 (by decide) (by decide) (by decide) 1 t1 t2 t4
  unfold lay at cG
  rw [t3] at cG
  clear t1 t2 t3 t4
  go_wp2_with fail
  refine Calls.mono cG ?_
  rintro r u14 ⟨g14, c14, rfl, _, hGs, b14⟩
  have b1314 : Below u12.heap.size u12 u14 := b13.trans (b14.mono b13.size)
  have hA : AllI u14 av [im9 0 1] := by
    have h := (AllI.below2 HA12.out b1314).take 1
    exact h
  have cS := same_at u14 (some ⟨g14, 0, none⟩) av 1 c14 cv 1 [im9 0 1] rfl (by decide) (fun l hl => by simp at hl; subst hl; rw [im9_length]; decide) (hGs trivial) hA
  have B14 := B13.trans (b1314.mono B13.size)
  clear cG hGs hA b13 b14 b1314 B13 HA12 HD12
  go_wp2_with fail
  refine Calls.mono cS ?_
  rintro r u15 ⟨rfl, b15⟩
  have B15 := B14.trans (b15.mono B14.size)
  clear cS b15 B14
  -- a ring that is full
  have al := (Below.refl u15.heap.size u15).alloc (Nat.le_refl _) (.cells #[.int .i64 2, .int .i64 2, .int .i64 2, .int .i64 2] 3)
  have cW := written_at (u15.alloc (.cells #[.int .i64 2, .int .i64 2, .int .i64 2, .int .i64 2] 3)) 3 5 (some ⟨u15.heap.size, 0, none⟩) 4 4 [2, 2, 2, 2] rfl (rdI_new u15 [2, 2, 2, 2]) (by decide) (by decide)
  go_wp2_with fail
  refine Calls.mono cW ?_
  rintro r u16 ⟨gy, dy, v, qy, rfl, hS⟩
  rw [show min 4 12 = 4 from rfl] at hS
  obtain ⟨ay, cy, rfl⟩ := Rc.owns_shape hS.row
  have hq : qy.length = 4 := by rw [hS.len, st35.1]; rfl
  rw [hq] at hS ⊢
  have bS := al.trans (hS.bel.mono al.size)
  have B16 := B15.trans (bS.mono B15.size)
  have HS : Hid (Sw (u15.alloc (.cells #[.int .i64 2, .int .i64 2, .int .i64 2, .int .i64 2] 3)) gy dy 3 5 (st9 3 5 [2, 2, 2, 2] 4) (.slice ay 4 cy) qy u16) := hS
  have Hz15 : Hid (w.heap.size ≤ (u15.alloc (.cells #[.int .i64 2, .int .i64 2, .int .i64 2, .int .i64 2] 3)).heap.size) := by have := B15.size; show _ ≤ _; simp; omega
  clear hS cW hq al bS B15
  go_wp2_with fail
  refine Calls.mono (L0.out _) ?_
  rintro r u17 ⟨rfl, b17⟩
  have hS1 := HS.out.below b17
  have cG := hS1.tells (by decide) (by decide) (by decide) (by decide)
  unfold lay at cG
  rw [st35.1, st35.2] at cG
  go_wp2_with fail
  refine Calls.mono cG ?_
  rintro r u18 ⟨a18, c18, rfl, hG, b18⟩
  have hS2 := hS1.below b18
  have hA := hS2.allI
  rw [st35.1] at hA
  have cS := same_at u18 a18 ay 4 c18 cy 3 (iss9 [(3, 2), (3, 2), (3, 2), (3, 2)]) rfl (by decide) (im9_all _ (by decide)) hG hA
  have b1718 := b17.trans (b18.mono b17.size)
  have B18 := B16.trans (b1718.mono B16.size)
  rw [show (iss9 [(3, 2), (3, 2), (3, 2), (3, 2)]).length = 4 from rfl]
  obtain ⟨Fy, hdy, hFy⟩ := hS2.disk
  obtain ⟨k1, k2, k3, k4, _⟩ := ok9 3 5 [2, 2, 2, 2] 4 (by decide)
  have HFy : Hid (∀ i, Fy i → w.heap.size ≤ i) := fun i hi => Nat.le_trans Hz15.out (hFy i hi)
  generalize (st9 3 5 [2, 2, 2, 2] 4).D = Dy at hdy k1 k2 k3 k4
  have HDy : Hid (Dk.IsDisk u18 dy Dy Fy) := hdy
  have HKy : Hid (J.Calm Dy ∧ Dy.nb = 64 ∧ Dy.uf.length ≤ 1000 ∧ Dy.n ≤ 1000) := ⟨k1, k2, by omega, by omega⟩
  clear cG hG hA hS1 hS2 b17 b18 b1718 B16 HS hdy hFy k1 k2 k3 k4
  go_wp2_with fail
  refine Calls.mono cS ?_
  rintro r u19 ⟨rfl, b19⟩
  clear cS
  go_wp2_with fail
  refine Calls.mono (L0.out _) ?_
  rintro r u20 ⟨rfl, b20⟩
  have cN := groups_nil u20 64 1 1 0
  unfold lay at cN
  go_wp2_with fail
  refine Calls.mono cN ?_
  rintro r u21 ⟨rfl, b21⟩
  have b1821 : Below u18.heap.size u18 u21 := b19.trans ((b20.trans (b21.mono b20.size)).mono b19.size)
  have B21 := B18.trans (b1821.mono B18.size)
  have HDy2 : Hid (Dk.IsDisk u21 dy Dy Fy) := HDy.out.below b1821
  clear cN b19 b20 b21 b1821 B18 HDy
  obtain ⟨V, hV⟩ : ∃ V, V = u21.alloc (.cells #[.int .i64 65, .int .i64 1, .int .i64 1, .int .i64 0, .int .i64 64, .int .i64 0, .int .i64 1, .int .i64 0, .int .i64 64, .int .i64 1, .int .i64 0, .int .i64 0, .int .i64 64, .int .i64 1, .int .i64 1, .int .i64 16, .int .i64 64, .int .i64 1, .int .i64 1, .int .i64 (-1), .int .i64 64, .int .i64 8388609, .int .i64 1, .int .i64 0, .int .i64 64, .int .i64 1, .int .i64 549755813889, .int .i64 0] 33) := ⟨_, rfl⟩
  have al := (Below.refl u21.heap.size u21).alloc (Nat.le_refl _) (.cells #[.int .i64 65, .int .i64 1, .int .i64 1, .int .i64 0, .int .i64 64, .int .i64 0, .int .i64 1, .int .i64 0, .int .i64 64, .int .i64 1, .int .i64 0, .int .i64 0, .int .i64 64, .int .i64 1, .int .i64 1, .int .i64 16, .int .i64 64, .int .i64 1, .int .i64 1, .int .i64 (-1), .int .i64 64, .int .i64 8388609, .int .i64 1, .int .i64 0, .int .i64 64, .int .i64 1, .int .i64 549755813889, .int .i64 0] 33)
  have bx := Dk.Box.new u21 #[.int .i64 65, .int .i64 1, .int .i64 1, .int .i64 0, .int .i64 64, .int .i64 0, .int .i64 1, .int .i64 0, .int .i64 64, .int .i64 1, .int .i64 0, .int .i64 0, .int .i64 64, .int .i64 1, .int .i64 1, .int .i64 16, .int .i64 64, .int .i64 1, .int .i64 1, .int .i64 (-1), .int .i64 64, .int .i64 8388609, .int .i64 1, .int .i64 0, .int .i64 64, .int .i64 1, .int .i64 549755813889, .int .i64 0] 33
  rw [← hV] at al bx
  have BV : Below w.heap.size w V := B21.trans (al.mono B21.size)
  have HDV : Hid (Dk.IsDisk V dy Dy Fy) := HDy2.out.below al
  have HBx : Hid (Box V u21.heap.size #[.int .i64 65, .int .i64 1, .int .i64 1, .int .i64 0, .int .i64 64, .int .i64 0, .int .i64 1, .int .i64 0, .int .i64 64, .int .i64 1, .int .i64 0, .int .i64 0, .int .i64 64, .int .i64 1, .int .i64 1, .int .i64 16, .int .i64 64, .int .i64 1, .int .i64 1, .int .i64 (-1), .int .i64 64, .int .i64 8388609, .int .i64 1, .int .i64 0, .int .i64 64, .int .i64 1, .int .i64 549755813889, .int .i64 0] 33) := bx
  go_wp2_with fail
  rw [← hV]
  clear hV al bx B21 HDy2
  generalize u21.heap.size = gl at HBx ⊢
  go_loopw [215] (fun i u => ∃ k : Nat, k ≤ 7 ∧ i = .int .i64 (k : Int) ∧ Below V.heap.size V u) (fun i _ => 7 - (intOf i).toNat)
  case atStart => exact ⟨0, by decide, rfl, Below.refl _ _⟩
  case round =>
    obtain ⟨k, hk, rfl, Bu⟩ := hrel
    by_cases hlt : k < 7
    · obtain ⟨q, hqm, q0, q1, q2, q3⟩ := sups_cell HBx.out k hlt
      have hno := sups_no q hqm
      obtain ⟨qb, qe, qs, qt⟩ := q
      dsimp only at hno q0 q1 q2 q3
      have l1 := block_lt_of_cell q0
      have x0 := (Bu.cell (p := ⟨gl, k * 4, none⟩) l1).trans q0
      have x1 := (Bu.cell (p := ⟨gl, k * 4 + 1, none⟩) l1).trans q1
      have x2 := (Bu.cell (p := ⟨gl, k * 4 + 2, none⟩) l1).trans q2
      have x3 := (Bu.cell (p := ⟨gl, k * 4 + 3, none⟩) l1).trans q3
      clear hqm q0 q1 q2 q3 l1
      obtain ⟨W, hW⟩ : ∃ W, W = wr.alloc (.cells #[.int .i64 qb, .int .i64 qe, .int .i64 qs, .int .i64 qt] 33) := ⟨_, rfl⟩
      have alW := Bu.alloc Bu.size (.cells #[.int .i64 qb, .int .i64 qe, .int .i64 qs, .int .i64 qt] 33)
      have bxW := Dk.Box.new wr #[.int .i64 qb, .int .i64 qe, .int .i64 qs, .int .i64 qt] 33
      rw [← hW] at alW bxW
      have lW : wr.heap.size < W.heap.size := by rw [hW]; simp
      have HW : Hid (∀ u, Below W.heap.size W u → (u.cell? ⟨wr.heap.size, 0, none⟩ = some (.int .i64 qb) ∧ u.cell? ⟨wr.heap.size, 1, none⟩ = some (.int .i64 qe) ∧ u.cell? ⟨wr.heap.size, 2, none⟩ = some (.int .i64 qs) ∧ u.cell? ⟨wr.heap.size, 3, none⟩ = some (.int .i64 qt))) := fun u bu =>
        ⟨(bu.cell (p := ⟨wr.heap.size, 0, none⟩) lW).trans (bxW.cell 0), (bu.cell (p := ⟨wr.heap.size, 1, none⟩) lW).trans (bxW.cell 1), (bu.cell (p := ⟨wr.heap.size, 2, none⟩) lW).trans (bxW.cell 2), (bu.cell (p := ⟨wr.heap.size, 3, none⟩) lW).trans (bxW.cell 3)⟩
      have HcG : Hid (∀ u, Below W.heap.size W u → Calls Tryz.prog 6 #[.pointer (some ⟨dy, 0, none⟩), .agg #[.int .i64 64, .int .i64 2, .int .i64 16, .int .i64 18, .int .i64 19, .int .i64 4, .int .i64 23], .agg #[.int .i64 qb, .int .i64 qe, .int .i64 qs, .int .i64 qt]] u fun r w' => r = .returned (.tuple #[.slice none 0 0, .int .i64 0, .int .i64 2]) ∧ Below u.heap.size u w') := fun u bu =>
        groups_no ((HDV.out.below alW).below bu) HKy.out.2.1 qb qe qs qt hno
      have HBW : Hid (Below V.heap.size V W) := alW
      clear alW bxW lW hno
      go_upto_region 27 with fail
      rw [← hW]
      clear hW
      have B0 : Below W.heap.size W W.drew := (Below.refl _ _).drew
      go_region_held3 (fun u => (u.cell? ⟨wr.heap.size, 0, none⟩ = some (.int .i64 qb) ∧ u.cell? ⟨wr.heap.size, 1, none⟩ = some (.int .i64 qe) ∧ u.cell? ⟨wr.heap.size, 2, none⟩ = some (.int .i64 qs) ∧ u.cell? ⟨wr.heap.size, 3, none⟩ = some (.int .i64 qt)))
        (first | with_reducible exact HW.out _ B0 | with_reducible exact HW.out _ B1 | with_reducible exact HW.out _ B2)
        (first
          | (go_at_call 7; refine Calls.mono (L0.out _) ?_; rintro r V1 ⟨rfl, hv1⟩; have B1 : Below W.heap.size W V1 := B0.trans (hv1.mono B0.size))
          | (go_at_call 6; refine Calls.mono (HcG.out _ B1) ?_; rintro r V2 ⟨rfl, hv2⟩; have B2 : Below W.heap.size W V2 := B1.trans (hv2.mono B1.size)))
      have B3 := HBW.out.trans (B2.mono HBW.out.size)
      clear HW HcG x0 x1 x2 x3 hv1 hv2 B0 B1 B2
      go_wp2_with fail
      go_roundw
      case rel => exact ⟨k + 1, by omega, by push_cast; rfl, B3⟩
      case measure => simp [intOf]; omega
    · have hkn : k = 7 := by omega
      subst hkn
      have BW := BV.trans (Bu.mono BV.size)
      have hdW := HDV.out.below Bu
      have cA := Dk.arm_at hdW 0 (by decide)
      rw [show Dk.armE 0 = 0 from rfl] at cA
      clear hdW
      go_wp2_with fail
      refine Calls.mono cA ?_
      rintro r y1 ⟨rfl, hy1, uy1⟩
      have cF := Dk.flush_at hy1
      have hn6 : (Dy.armed 0).operE = 6 := by
        obtain ⟨h1, _, _⟩ := HKy.out.1
        simp [Dk.DS.operE, Dk.DS.armed, Dk.Fuse.stops, h1]
      have hgn : (Dy.armed 0).flush.gone = true := by
        unfold Dk.DS.flush
        rw [if_neg (by rw [hn6]; decide)]
        obtain ⟨h1, _, _⟩ := HKy.out.1
        simp [Dk.DS.oper, Dk.DS.armed, Dk.Fuse.stops, h1]
      have hnb : (Dy.armed 0).flush.nb = 64 := by
        unfold Dk.DS.flush
        rw [if_neg (by rw [hn6]; decide), Dk.DS.oper_nb]
        exact HKy.out.2.1
      rw [hn6] at cF
      clear cA
      go_wp2_with fail
      refine Calls.mono cF ?_
      rintro r y2 ⟨rfl, hy2, uy2⟩
      have BY1 := BW.trans (uy1.below HFy.out BW.size)
      have BY2 := BY1.trans (uy2.below HFy.out BY1.size)
      clear cF hy1
      go_wp2_with fail
      refine Calls.mono (L0.out _) ?_
      rintro r y3 ⟨rfl, b3⟩
      have cG := groups_down (hy2.below b3) hnb hgn 5 3 1 (by decide) (by decide) (by decide)
      unfold lay at cG
      have BY3 := BY2.trans (b3.mono BY2.size)
      clear hy2
      go_wp2_with fail
      refine Calls.mono cG ?_
      rintro r y4 ⟨rfl, b4⟩
      have BY4 := BY3.trans (b4.mono BY3.size)
      have cO := others_at y4
      clear cG
      go_wp2_with fail
      refine Calls.mono cO ?_
      rintro r y5 ⟨rfl, b5⟩
      have BY5 := BY4.trans (b5.mono BY4.size)
      have cA := awake_at y5
      clear cO
      go_wp2_with fail
      refine Calls.mono cA ?_
      rintro r y6 ⟨rfl, b6⟩
      have BY6 := BY5.trans (b6.mono BY5.size)
      go_wp2_with fail
      go_ret
      exact ⟨rfl, BY6⟩
end Go.Proofs.YtkhejjddmbegaaaGreat.S
