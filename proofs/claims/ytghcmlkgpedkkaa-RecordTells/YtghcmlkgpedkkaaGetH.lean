/-
  getHeading.
-/
import Derived.Test.YtghcmlkgpedkkaaPutHb
import Derived.Test.YtghcmlkgpedkkaaRightG
import Derived.Test.YtghcmlkgpedkkaaBodyOf
namespace Go.Proofs.Ytghcmlkgpedkkaa
open Go.RowKit

/-- what a block says, were it a head -/
def saidE (xs : List UInt8) : Nat := beNat (xs.take 8) / 1099511627776
def saidS (xs : List UInt8) : Nat := beNat (xs.take 8) % 1099511627776
def bodyX (xs : List UInt8) : List UInt8 := bodyTo xs (List.finRange 8)
def saidEs (xs : List UInt8) : List (Nat × List UInt8) := if cntOf (bodyX xs) ≤ 32 then entsOf (bodyX xs) (cntOf (bodyX xs)) else []
/-- is it a head? -/
def isHead (xs : List UInt8) : Prop := xs.length = 4096 ∧ okHead (saidE xs) (saidS xs) ((saidEs xs).map fun e => (e.1 : Int)) ∧ xs = headB (saidE xs) (saidS xs) (saidEs xs)

theorem bodyX_length (xs : List UInt8) (hl : xs.length = 4096) : (bodyX xs).length = 4032 := by
  unfold bodyX bodyTo
  have : ∀ pre : List (Fin 8), (pre.flatMap fun x => (sec xs x.val).drop 8).length = pre.length * 504 := by
    intro pre
    induction pre with
    | nil => rfl
    | cons x pre ih =>
      have := sec_length xs x.val hl x.isLt
      rw [List.flatMap_cons, List.length_append, ih, List.length_drop, this, List.length_cons]
      omega
  rw [this]
  simp

theorem be8_lt (l : List UInt8) : beNat (l.take 8) < 18446744073709551616 := beNat_take_lt l 8 (by omega)

/-- entries that lie in blocks from B on -/
def EntsB (B : Nat) (w : World) (a : Option Addr) (es : List (Nat × List UInt8)) : Prop :=
  Ents w a es ∧ (0 < es.length → ∀ b o, a = some ⟨b, o, none⟩ → B ≤ b ∧ ∀ j, j < es.length → ∀ g q c, w.cell? ⟨b, o + j * 2 + 1, none⟩ = some (.slice (some ⟨g, q, none⟩) 64 c) → B ≤ g)
theorem EntsB.below {B : Nat} {w w' : World} {a : Option Addr} {es : List (Nat × List UInt8)} (h : EntsB B w a es) (hb : Below w.heap.size w w') : EntsB B w' a es := by
  refine ⟨h.1.below hb, fun hp b o ha => ?_⟩
  obtain ⟨h1, h2⟩ := h.2 hp b o ha
  refine ⟨h1, fun j hj g q c hc => h2 j hj g q c ?_⟩
  obtain ⟨b', o', ha', hc'⟩ := h.1 hp
  rw [ha] at ha'
  cases ha'
  have hlt : b < w.heap.size := block_lt_of_cell (hc' j hj).1
  rw [← hb.cell (p := ⟨b, o + j * 2 + 1, none⟩) hlt]
  exact hc
theorem EntsB.store {B x i : Nat} {w : World} {a : Option Addr} {es : List (Nat × List UInt8)} {u : Value} (h : EntsB B w a es) (hx : x < B) : EntsB B (w.setCell ⟨x, i, none⟩ u) a es := by
  have hup : Upd (fun k => k = x) w (w.setCell ⟨x, i, none⟩ u) := Upd.setCell (g := x) (Upd.refl (fun k => k = x) w) (.inl rfl) u
  have hcell : ∀ b k, B ≤ b → (w.setCell ⟨x, i, none⟩ u).cell? ⟨b, k, none⟩ = w.cell? ⟨b, k, none⟩ := fun b k hb => World.cell?_of_block (a := ⟨b, k, none⟩) (heap_setCell_other w ⟨x, i, none⟩ b u (by show b ≠ x; omega))
  refine ⟨fun hp => ?_, fun hp b o ha => ?_⟩
  · obtain ⟨b, o, ha, hc⟩ := h.1 hp
    obtain ⟨h1, h2⟩ := h.2 hp b o ha
    refine ⟨b, o, ha, fun j hj => ?_⟩
    obtain ⟨q1, g, q, c, q2, q3, q4, q5, q6⟩ := hc j hj
    have hg := h2 j hj g q c q2
    exact ⟨(hcell _ _ h1).trans q1, g, q, c, (hcell _ _ h1).trans q2, q3, q4, q5, q6.upd hup (by show ¬ g = x; omega)⟩
  · obtain ⟨h1, h2⟩ := h.2 hp b o ha
    exact ⟨h1, fun j hj g q c hc => h2 j hj g q c ((hcell _ _ h1).symm.trans hc)⟩

/-- what getHeading tells -/
def GetH (w : World) (xs : List UInt8) (r : Ending) (w' : World) : Prop :=
  (isHead xs ∧ ∃ a c, r = .returned (.tuple #[.agg #[.int .i64 (saidE xs : Int), .int .i64 (saidS xs : Int), .slice a (saidEs xs).length c], .bool true]) ∧ Ents w' a (saidEs xs) ∧ Below w.heap.size w w') ∨
  (¬ isHead xs ∧ r = .returned (.tuple #[.agg #[.int .i64 0, .int .i64 0, .slice none 0 0], .bool false]) ∧ Below w.heap.size w w')

set_option maxRecDepth 100000 in
theorem getHeading_short (a : Option Addr) (n cap : Nat) (xs : List UInt8) (w : World) (hl : xs.length = n) (hn : n ≠ 4096) :
    Calls Try.prog 34 #[.slice a n cap] w (GetH w xs) := by
  have hne : ((n : Int) != 4096) = true := by simp; omega
  have hno : Hid (¬ isHead xs) := fun h => hn (by rw [← hl]; exact h.1)
  have b0 := Box.new w #[.int .i64 0, .int .i64 0, .slice none 0 0] 57
  have y0 := b0.cell 0
  have y1 := b0.cell 1
  have y2 := b0.cell 2
  have B0 := (Below.refl w.heap.size w).alloc (Nat.le_refl _) (.cells #[.int .i64 0, .int .i64 0, .slice none 0 0] 57)
  clear hl
  go_enter Try.func34, Try.ntmps34
  go_wp2
  refine bodyPost_ret (v := .tuple #[.agg #[.int .i64 0, .int .i64 0, .slice none 0 0], .bool false]) (by simp [results, Try.results34, go_sem]) rfl ?_
  exact .inr ⟨hno.out, rfl, B0⟩

set_option maxRecDepth 100000 in
set_option maxHeartbeats 4000000 in
theorem getHeading_in (g o cap : Nat) (xs : List UInt8) (w : World) (hl : xs.length = 4096) (hcap : 4096 ≤ cap) (hmax : cap ≤ 9223372036854775807) (hr : Rd w (some ⟨g, o, none⟩) xs) :
    Calls Try.prog 34 #[.slice (some ⟨g, o, none⟩) 4096 cap] w (GetH w xs) := by
  have n8 : numAt xs 0 8 = some (beNat (xs.take 8)) := by have := numAt_some (xs := xs) (k := 0) (size := 8) (by omega); simpa using this
  have B0 := (Below.refl w.heap.size w).alloc (Nat.le_refl _) (.cells #[.int .i64 0, .int .i64 0, .slice none 0 0] 57)
  have b0 := Box.new w #[.int .i64 0, .int .i64 0, .slice none 0 0] 57
  have cU : ∀ u, Below w.heap.size w u → _ := fun u hb => u64_at cap 4096 (some ⟨g, o, none⟩) xs 0 (beNat (xs.take 8)) _ u rfl hl (by omega) (hr.below hb (Nat.le_refl _)) n8
  have cB : ∀ u, Below w.heap.size w u → _ := fun u hb => bodyOf_in g o cap xs u hl hcap hmax (hr.below hb (Nat.le_refl _))
  have hv := be8_lt xs
  have cS : ∀ u, _ := fun u => unstamp_at (beNat (xs.take 8)) _ u rfl hv
  have HE : Hid (saidE xs = beNat (xs.take 8) / 1099511627776) := rfl
  have HS : Hid (saidS xs = beNat (xs.take 8) % 1099511627776) := rfl
  rw [← HE.out, ← HS.out] at cS
  have hbl := bodyX_length xs hl
  have HBX : Hid (bodyTo xs (List.finRange 8) = bodyX xs) := rfl
  rw [HBX.out] at cB
  have HEs : Hid (saidEs xs = if cntOf (bodyX xs) ≤ 32 then entsOf (bodyX xs) (cntOf (bodyX xs)) else []) := rfl
  have HIS : Hid (isHead xs ↔ okHead (saidE xs) (saidS xs) ((saidEs xs).map fun e => (e.1 : Int)) ∧ xs = headB (saidE xs) (saidS xs) (saidEs xs)) := ⟨fun h => h.2, fun h => ⟨hl, h⟩⟩
  have HL : Hid _ := hl
  unfold GetH
  generalize isHead xs = IS at HIS ⊢
  generalize saidE xs = E at cS HIS HE ⊢
  generalize saidS xs = S at cS HIS HS ⊢
  generalize saidEs xs = es at HIS HEs ⊢
  generalize bodyX xs = BB at cB hbl HEs
  generalize beNat (xs.take 8) = v at cU cS hv
  clear n8 hl HBX
  go_enter Try.func34, Try.ntmps34
  go_wp2_with fail
  refine (cU _ B0).mono ?_
  rintro r w' ⟨rfl, rfl⟩
  clear cU
  go_wp2_with fail
  refine (cB _ B0).mono ?_
  rintro r w1 ⟨vb, rfl, ob, hb1⟩
  clear cB
  replace b0 := b0.below hb1
  have B1 := B0.trans (hb1.mono B0.size)
  obtain ⟨gb, cb, rfl, hgb, rb⟩ := RowB.owns ob (by omega)
  have hgb1 : w.heap.size + 1 ≤ gb := by have : (w.alloc (.cells #[.int .i64 0, .int .i64 0, .slice none 0 0] 57)).heap.size = w.heap.size + 1 := by simp
                                         omega
  have hw11 : w.heap.size + 1 ≤ w1.heap.size := by have : (w.alloc (.cells #[.int .i64 0, .int .i64 0, .slice none 0 0] 57)).heap.size = w.heap.size + 1 := by simp
                                                   have := hb1.size
                                                   omega
  have hcb : 4032 ≤ cb ∧ cb ≤ 9223372036854775807 := by
    obtain ⟨cur, _, q1, q2, _⟩ := rb
    unfold maxLen at q2
    omega
  have c52 : Calls Try.prog 52 #[.slice (some ⟨gb, 0, none⟩) 4032 cb] w1 fun r w' => ∃ a c, r = .returned (.slice a es.length c) ∧ EntsB (w.heap.size + 1) w' a es ∧ Below w1.heap.size w1 w' := by
    by_cases hc : cntOf BB ≤ 32
    · refine (entriesOf_in gb 0 cb BB w1 hbl hcb.1 hcb.2 rb.rd hc).mono ?_
      rintro r w' ⟨v', rfl, ow, hb'⟩
      obtain ⟨a, c, rfl, hE⟩ := entsOf_ents hbl hcb.1 hcb.2 (rb.rd.below hb' (Nat.le_refl _)) hc ow
      have e1 : es = entsOf BB (cntOf BB) := by rw [HEs.out, if_pos hc]
      refine ⟨a, c, by rw [e1, entsOf_length], ⟨by rw [e1]; exact hE, fun hp b o ha => ?_⟩, hb'⟩
      subst ha
      obtain ⟨z1, _⟩ := owns_block ow b rfl
      refine ⟨by omega, fun j hj g' q c' hc' => ?_⟩
      rw [e1, entsOf_length] at hj
      obtain ⟨_, y2⟩ := entCells_at BB gb 0 cb (cntOf BB) j hj
      have k2 := ow.cells (g := b) rfl _ _ y2
      rw [Addr.add_lit] at k2
      have ho0 : o = 0 := by
        rcases ow.2 with ⟨hv, _⟩ | ⟨gv, cap', cur, hv, _⟩
        · simp at hv
        · have := (Value.slice.inj hv).1
          simp at this
          exact this.2
      subst ho0
      rw [Nat.add_assoc, k2] at hc'
      simp at hc'
      omega
    · refine (entriesOf_many gb 0 cb BB w1 hbl rb.rd (by omega)).mono ?_
      rintro r w' ⟨rfl, rfl⟩
      have e1 : es = [] := by rw [HEs.out, if_neg hc]
      exact ⟨none, 0, by rw [e1]; rfl, ⟨by rw [e1]; intro h; simp at h, by rw [e1]; intro h; simp at h⟩, Below.refl _ _⟩
  clear ob hcb hgb rb
  go_wp2_with fail
  refine c52.mono ?_
  rintro r w2 ⟨a, c, rfl, hEn, hb2⟩
  clear c52
  replace b0 := b0.below hb2
  have B2 := B1.trans (hb2.mono B1.size)
  have hlt2 := b0.lt
  have bh := Box.new w2 #[.int .i64 0, .int .i64 0, .slice a es.length c] 57
  have al := (Below.refl w2.heap.size w2).alloc (Nat.le_refl _) (.cells #[.int .i64 0, .int .i64 0, .slice a es.length c] 57)
  obtain ⟨w3, hw3⟩ : ∃ x, x = w2.alloc (.cells #[.int .i64 0, .int .i64 0, .slice a es.length c] 57) := ⟨_, rfl⟩
  have HW3 : Hid _ := hw3
  obtain ⟨hb, hhb⟩ : ∃ x, x = w2.heap.size := ⟨_, rfl⟩
  have HHB : Hid _ := hhb
  rw [← hw3] at bh al
  rw [← hhb] at bh
  have hbge : w2.heap.size ≤ hb := Nat.le_of_eq hhb.symm
  clear hw3 hhb
  go_wp2_with fail
  rw [← HW3.out, ← HHB.out]
  refine (cS w3).mono ?_
  rintro r w' ⟨rfl, rfl⟩
  clear cS
  have d0 := bh.cell 0
  have f0 := bh.frozen 0
  have bh1 : Box (w3.setCell ⟨hb, 0, none⟩ (.int .i64 (E : Int))) hb #[.int .i64 (E : Int), .int .i64 0, .slice a es.length c] 57 := by have := bh.store 0 (.int .i64 (E : Int)); simpa using this
  have d1 := bh1.cell 1
  have f1 := bh1.frozen 1
  have bh2 : Box ((w3.setCell ⟨hb, 0, none⟩ (.int .i64 (E : Int))).setCell ⟨hb, 1, none⟩ (.int .i64 (S : Int))) hb #[.int .i64 (E : Int), .int .i64 (S : Int), .slice a es.length c] 57 := by have := bh1.store 1 (.int .i64 (S : Int)); simpa using this
  have al2 := (al.setCell (p := ⟨hb, 0, none⟩) hbge (.int .i64 (E : Int))).setCell (p := ⟨hb, 1, none⟩) hbge (.int .i64 (S : Int))
  obtain ⟨w4, hw4⟩ : ∃ x, x = (w3.setCell ⟨hb, 0, none⟩ (.int .i64 (E : Int))).setCell ⟨hb, 1, none⟩ (.int .i64 (S : Int)) := ⟨_, rfl⟩
  have HW4 : Hid _ := hw4
  rw [← hw4] at bh2 al2
  clear hw4 al bh
  have c0 := bh2.cell 0
  have c1 := bh2.cell 1
  have c2 := bh2.cell 2
  have c0' : ((w3.setCell ⟨hb, 0, none⟩ (.int .i64 (E : Int))).setCell ⟨hb, 1, none⟩ (.int .i64 (S : Int))).cell? ⟨hb, 0, none⟩ = some (.int .i64 (E : Int)) := by rw [← HW4.out]; exact c0
  have c1' : ((w3.setCell ⟨hb, 0, none⟩ (.int .i64 (E : Int))).setCell ⟨hb, 1, none⟩ (.int .i64 (S : Int))).cell? ⟨hb, 1, none⟩ = some (.int .i64 (S : Int)) := by rw [← HW4.out]; exact c1
  have c2' : ((w3.setCell ⟨hb, 0, none⟩ (.int .i64 (E : Int))).setCell ⟨hb, 1, none⟩ (.int .i64 (S : Int))).cell? ⟨hb, 2, none⟩ = some (.slice a es.length c) := by rw [← HW4.out]; exact c2
  have cR := rightHeading_at (E : Int) (S : Int) a es.length c (es.map fun e => (e.1 : Int)) w4 (by simp) (hEn.below al2).1.blks
  go_wp2_with fail
  rw [← HW4.out]
  refine cR.mono ?_
  rintro r w5 ⟨q, rfl, hq, hb5⟩
  clear cR c0' c1' c2' d0 f0 d1 f1 bh1
  have bh5 := bh2.below hb5
  have al5 := al2.trans (hb5.mono al2.size)
  have b05 := b0.below al5
  have hE5 := hEn.below al5
  have B5 := B2.trans (al5.mono B2.size)
  have e0 := bh5.cell 0
  have e1 := bh5.cell 1
  have e2 := bh5.cell 2
  have r0 := b05.cell 0
  have r1 := b05.cell 1
  have r2 := b05.cell 2
  cases q with
  | false =>
    have hno : Hid (¬ IS) := fun h => by
      have := hq.2 (HIS.out.1 h).1
      cases this
    clear hq
    have fr0 := b05.frozen 0
    have fr1 := b05.frozen 1
    have fr2 := b05.frozen 2
    go_wp2
    refine bodyPost_ret (v := .tuple #[.agg #[.int .i64 0, .int .i64 0, .slice none 0 0], .bool false]) (by simp [results, Try.results34, go_sem, r0, r1, r2]) rfl ?_
    exact .inr ⟨hno.out, rfl, ((B5.setCell (p := ⟨w.heap.size, 0, none⟩) (by simp) _).setCell (p := ⟨w.heap.size, 1, none⟩) (by simp) _).setCell (p := ⟨w.heap.size, 2, none⟩) (by simp) _⟩
  | true =>
    have hok := hq.1 rfl
    clear hq
    obtain ⟨hk1, hk2, hk3⟩ := hok
    have hEb := (okStamp_iff _ _).1 hk1
    have hln : 0 < es.length ∧ es.length ≤ 32 := by have := hk2; rw [List.length_map] at this; omega
    have hbl5 : ∀ x ∈ es, x.1 ≤ 511 := fun x hx => by
      obtain ⟨j, hj, rfl⟩ := List.getElem_of_mem hx
      have h7 := (hk3 j (by simpa using hj) (by simpa using hj)).1
      rw [List.getElem_map] at h7
      have := h7.2
      omega
    have cP := putHeading_in E S a es.length c es w5 (by omega) (by omega) rfl hln.1 hln.2 hE5.1 hbl5
    have HOK : Hid _ := (⟨hk1, hk2, hk3⟩ : okHead (E : Int) (S : Int) (es.map fun e => (e.1 : Int)))
    have HB5 : Hid _ := hbl5
    clear hk1 hk2 hk3 hEb hln hbl5
    go_wp2_with fail
    refine cP.mono ?_
    rintro r w6 ⟨h, rfl, hh, rh, hb6⟩
    clear cP
    have B6 := B5.trans (hb6.mono B5.size)
    have hHl : (headB E S es).length = 4096 := by
      obtain ⟨cur, _, _, _, _, ht⟩ := rh
      unfold headB
      refine putTo_length _ _ _ (nought_length _) (mark_length _ _) ?_ _ (by simp)
      exact bodyB_length es (fun x hx => by
        obtain ⟨j, hj, rfl⟩ := List.getElem_of_mem hx
        obtain ⟨b, o, _, hc⟩ := hE5.1 (by omega)
        obtain ⟨_, _, _, _, _, _, _, q, _⟩ := hc j hj
        exact q) (by have := HOK.out.2.1.2; simpa using this)
    have cQ := equal_at cap 4096 4096 4096 (some ⟨g, o, none⟩) (some ⟨h, 0, none⟩) xs (headB E S es) w6 HL.out hHl (hr.below B6 (Nat.le_refl _)) rh.rd
    have b06 := b05.below hb6
    have bh6 := bh5.below hb6
    have hE6 := hE5.below hb6
    clear rh hh
    have r0' := b06.cell 0
    have r1' := b06.cell 1
    have r2' := b06.cell 2
    have fr0 := b06.frozen 0
    have fr1 := b06.frozen 1
    have fr2 := b06.frozen 2
    have z0 := bh6.cell 0
    have z1 := bh6.cell 1
    have z2 := bh6.cell 2
    by_cases hx : xs = headB E S es
    · have hqq : (xs == headB E S es) = true := by simpa using hx
      rw [hqq] at cQ
      have hyes : Hid IS := HIS.out.2 ⟨HOK.out, hx⟩
      clear hqq hx
      have st0 : Box (w6.setCell ⟨w.heap.size, 0, none⟩ (.int .i64 (E : Int))) w.heap.size #[.int .i64 (E : Int), .int .i64 0, .slice none 0 0] 57 := by have := b06.store 0 (.int .i64 (E : Int)); simpa using this
      have st1 : Box ((w6.setCell ⟨w.heap.size, 0, none⟩ (.int .i64 (E : Int))).setCell ⟨w.heap.size, 1, none⟩ (.int .i64 (S : Int))) w.heap.size #[.int .i64 (E : Int), .int .i64 (S : Int), .slice none 0 0] 57 := by have := st0.store 1 (.int .i64 (S : Int)); simpa using this
      have st2 : Box (((w6.setCell ⟨w.heap.size, 0, none⟩ (.int .i64 (E : Int))).setCell ⟨w.heap.size, 1, none⟩ (.int .i64 (S : Int))).setCell ⟨w.heap.size, 2, none⟩ (.slice a es.length c)) w.heap.size #[.int .i64 (E : Int), .int .i64 (S : Int), .slice a es.length c] 57 := by have := st1.store 2 (.slice a es.length c); simpa using this
      have g1 := st0.frozen 1
      have g2 := st1.frozen 2
      have g1c := st0.cell 1
      have g2c := st1.cell 2
      have m0 := st2.cell 0
      have m1 := st2.cell 1
      have m2 := st2.cell 2
      have B7 := ((B6.setCell (p := ⟨w.heap.size, 0, none⟩) (by simp) (.int .i64 (E : Int))).setCell (p := ⟨w.heap.size, 1, none⟩) (by simp) (.int .i64 (S : Int))).setCell (p := ⟨w.heap.size, 2, none⟩) (by simp) (.slice a es.length c)
      go_wp2_with fail
      refine cQ.mono ?_
      rintro r w' ⟨rfl, rfl⟩
      clear cQ
      have hE7 : Ents _ a es := (((hE6.store (x := w.heap.size) (i := 0) (u := .int .i64 (E : Int)) (by omega)).store (x := w.heap.size) (i := 1) (u := .int .i64 (S : Int)) (by omega)).store (x := w.heap.size) (i := 2) (u := .slice a es.length c) (by omega)).1
      go_wp2
      refine bodyPost_ret (v := .tuple #[.agg #[.int .i64 (E : Int), .int .i64 (S : Int), .slice a es.length c], .bool true]) (by simp [results, Try.results34, go_sem, m0, m1, m2]) rfl ?_
      exact .inl ⟨hyes.out, a, c, rfl, hE7, B7⟩
    · have hqq : (xs == headB E S es) = false := by simpa using hx
      rw [hqq] at cQ
      have hno : Hid (¬ IS) := fun h => hx (HIS.out.1 h).2
      clear hqq hx
      go_wp2_with fail
      refine cQ.mono ?_
      rintro r w' ⟨rfl, rfl⟩
      clear cQ
      go_wp2
      refine bodyPost_ret (v := .tuple #[.agg #[.int .i64 0, .int .i64 0, .slice none 0 0], .bool false]) (by simp [results, Try.results34, go_sem, r0', r1', r2']) rfl ?_
      exact .inr ⟨hno.out, rfl, ((B6.setCell (p := ⟨w.heap.size, 0, none⟩) (by simp) _).setCell (p := ⟨w.heap.size, 1, none⟩) (by simp) _).setCell (p := ⟨w.heap.size, 2, none⟩) (by simp) _⟩
end Go.Proofs.Ytghcmlkgpedkkaa
