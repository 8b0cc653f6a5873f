/-
  The document's own Get, of any blocks.
-/
import Derived.Test.YtghcmlkgpedkkaaRTail
import Derived.Test.YtghcmlkgpedkkaaRUh
namespace Go.Proofs.Ytghcmlkgpedkkaa
open Go.RowKit

/-- what Get tells -/
def RGetR (w : World) (ls : List (List UInt8)) (r : Ending) (w' : World) : Prop :=
  (isGrp ls ∧ ∃ a c, r = .returned (.tuple #[.agg #[.int .i64 (saidE (ls[0]?.getD []) : Int), .int .i64 (saidS (ls[0]?.getD []) : Int), .slice a (saidEs (ls[0]?.getD [])).length c], .int .i64 0]) ∧ Imgs w' a (imgsTo ls (saidEs (ls[0]?.getD [])) (saidEs (ls[0]?.getD [])).length) ∧ Below w.heap.size w w') ∨
  (¬ isGrp ls ∧ r = .returned (.tuple #[.agg #[.int .i64 0, .int .i64 0, .slice none 0 0], .int .i64 80]) ∧ Below w.heap.size w w')
/-- one of the images with other bytes -/
def setX (qs : List GG) (k : Nat) (Y : List UInt8) : List GG := qs.modify k fun p => { p with xs := Y }
theorem setX_length (qs : List GG) (k : Nat) (Y : List UInt8) : (setX qs k Y).length = qs.length := by simp [setX]
theorem setX_at (qs : List GG) (k : Nat) (Y : List UInt8) (h : k < qs.length) : (setX qs k Y)[k]'(by rw [setX_length]; exact h) = { qs[k] with xs := Y } := by simp [setX]
theorem setX_other (qs : List GG) (k i : Nat) (Y : List UInt8) (h : i < qs.length) (hne : i ≠ k) : (setX qs k Y)[i]'(by rw [setX_length]; exact h) = qs[i] := by
  unfold setX
  rw [List.getElem_modify, if_neg (fun e => hne e.symm)]
theorem setX_self (qs : List GG) (k : Nat) (h : k < qs.length) : setX qs k (qs[k]).xs = qs := by
  refine List.ext_getElem (setX_length _ _ _) (fun i h1 h2 => ?_)
  by_cases e : i = k
  · subst e
    rw [setX_at _ _ _ h]
  · rw [setX_other _ _ _ _ h2 e]
theorem setX_c (qs : List GG) (k : Nat) (Y : List UInt8) : imgC (setX qs k Y) = imgC qs := by
  unfold imgC setX
  induction qs generalizing k with
  | nil => cases k <;> rfl
  | cons p qs ih =>
    cases k with
    | zero => rfl
    | succ k =>
      simp only [List.modify_succ_cons, List.flatMap_cons]
      rw [ih k]
theorem setX_byte (qs : List GG) (k j : Nat) (Y : List UInt8) (v : UInt8) : byteP (setX qs k Y) k j v = setX qs k (Y.set j v) := by
  unfold byteP setX
  refine List.ext_getElem? (fun i => ?_)
  simp only [List.getElem?_modify]
  cases qs[i]? with
  | none => simp
  | some p => by_cases e : k = i <;> simp [e]

set_option maxRecDepth 100000 in
theorem rget_none (a : Option Addr) (cap : Nat) (w : World) : Calls Try.prog 21 #[.slice a 0 cap] w (RGetR w []) := by
  have x2 := Box.new w #[.int .i64 0, .int .i64 0, .slice none 0 0] 28
  have B2 := (Below.refl w.heap.size w).alloc (Nat.le_refl _) (.cells #[.int .i64 0, .int .i64 0, .slice none 0 0] 28)
  go_enter Try.func21, Try.ntmps21
  go_wp2_with fail
  refine bodyPost_ret (v := .tuple #[.agg #[.int .i64 0, .int .i64 0, .slice none 0 0], .int .i64 80]) (by simp [results, Try.results21, go_sem]) rfl ?_
  exact .inr ⟨fun h => by have := h.1; simp at this, rfl, B2⟩
/-- the empty answer, in its cell -/
theorem zeros_back {u w : World} (x2 : Box u w.heap.size #[.int .i64 0, .int .i64 0, .slice none 0 0] 28) (B : Below w.heap.size w u) :
    Box (((u.setCell ⟨w.heap.size, 0, none⟩ (.int .i64 0)).setCell ⟨w.heap.size, 1, none⟩ (.int .i64 0)).setCell ⟨w.heap.size, 2, none⟩ (.slice none 0 0)) w.heap.size #[.int .i64 0, .int .i64 0, .slice none 0 0] 28 ∧
    Below w.heap.size w (((u.setCell ⟨w.heap.size, 0, none⟩ (.int .i64 0)).setCell ⟨w.heap.size, 1, none⟩ (.int .i64 0)).setCell ⟨w.heap.size, 2, none⟩ (.slice none 0 0)) :=
  ⟨by simpa using ((x2.store 0 (.int .i64 0)).store 1 (.int .i64 0)).store 2 (.slice none 0 0), ((B.setCell (p := ⟨w.heap.size, 0, none⟩) (Nat.le_refl _) _).setCell (p := ⟨w.heap.size, 1, none⟩) (Nat.le_refl _) _).setCell (p := ⟨w.heap.size, 2, none⟩) (Nat.le_refl _) _⟩

/-- images of one's own stay when a cell of a group's box is written -/
theorem ownJ_put {u : World} {B m c g j : Nat} {a : Option Addr} {qs : List GG} {v : Value} {cs : Array Value} (own : u.ownsRow B 38 2 (.slice a m c) m (imgC qs)) (J : GetJ B u qs) (hb : Box u g cs 28) :
    (u.setCell ⟨g, j, none⟩ v).ownsRow B 38 2 (.slice a m c) m (imgC qs) ∧ GetJ B (u.setCell ⟨g, j, none⟩ v) qs :=
  ⟨owns_grown own (grown_store _ _ _ _) (fun k h1 h2 => by
    injection h2 with h2
    subst h2
    obtain ⟨_, cur, hc⟩ := owns_block own _ h1
    exact Box.ne hc hb (by decide) rfl), J.store hb (by decide) v⟩

set_option maxRecDepth 100000 in
set_option maxHeartbeats 8000000 in
theorem rget_in (a : Option Addr) (n cap : Nat) (ls : List (List UInt8)) (w : World) (hl : ls.length = n) (h0 : 0 < n) (hn : n ≤ 1000000000) (hL : Lsts w a ls) : Calls Try.prog 21 #[.slice a n cap] w (RGetR w ls) := by
  have x2 := Box.new w #[.int .i64 0, .int .i64 0, .slice none 0 0] 28
  have B2 := (Below.refl w.heap.size w).alloc (Nat.le_refl _) (.cells #[.int .i64 0, .int .i64 0, .slice none 0 0] 28)
  obtain ⟨b, o, rfl, hc⟩ := hL (by omega)
  obtain ⟨x, cx, g1, g2, g3, g4, g5⟩ := hc 0 (by omega)
  have lb : b < w.heap.size := block_lt_of_cell g1
  have HLS : Hid (∀ j (h : j < ls.length), LstAt w b (o + j) ls[j]) := hc
  have e0 : ls[0]?.getD [] = ls[0]'(by omega) := by simp [show 0 < ls.length by omega]
  have HL : Hid (ls.length = n) := hl
  obtain ⟨h0l, hh0⟩ : ∃ z, z = ls[0]?.getD [] := ⟨_, rfl⟩
  rw [← e0, ← hh0] at g1 g2 g5
  have HH0 : Hid (h0l = ls[0]?.getD []) := hh0
  have cR := rread_at x h0l.length cx h0l (w.alloc (.cells #[.int .i64 0, .int .i64 0, .slice none 0 0] 28)) rfl (g5.below B2 (Nat.le_refl _)) g2
  rw [Nat.add_zero] at g1
  rw [← B2.cell (p := ⟨b, o, none⟩) lb] at g1
  have hni : ¬ (n : Int) = 0 := by omega
  have hn0 : ((n : Int) == 0) = false := by simp; omega
  clear hl hL hc hh0 e0 g2 g3 g4 g5
  go_enter Try.func21, Try.ntmps21
  go_wp2_with fail
  refine cR.mono ?_
  clear cR
  rintro r w1 (⟨hhd, a4, c4, qs, rfl, own, hJ, hSG, b1⟩ | ⟨hhd, e, s, a', n', c', rfl, b1⟩)
  · have HHD : Hid (isHead h0l) := hhd
    have HSG : Hid (SaidG h0l (qs.map fun p => (p.b, p.xs))) := hSG
    obtain ⟨m, hm⟩ : ∃ m, m = (saidEs h0l).length := ⟨_, rfl⟩
    have HM : Hid (m = (saidEs h0l).length) := hm
    rw [← hm] at own ⊢
    have h32 : 1 ≤ m ∧ m ≤ 32 := by
      have := hhd.2.1.2.1
      rw [List.length_map, ← hm] at this
      exact this
    obtain ⟨E, hE⟩ : ∃ E, E = saidE h0l := ⟨_, rfl⟩
    obtain ⟨S, hS⟩ : ∃ S, S = saidS h0l := ⟨_, rfl⟩
    rw [← hE, ← hS]
    have HE : Hid (E = saidE h0l) := hE
    have HS : Hid (S = saidS h0l) := hS
    clear hhd hSG hm hE hS g1
    have ba := (Below.refl w1.heap.size w1).alloc (Nat.le_refl _) (.cells #[.int .i64 (E : Int), .int .i64 (S : Int), .slice a4 m c4] 28)
    have x4 := Box.new w1 #[.int .i64 (E : Int), .int .i64 (S : Int), .slice a4 m c4] 28
    have x2b := (x2.below b1).below ba
    have B3 := (B2.trans (b1.mono B2.size)).trans (ba.mono (Nat.le_trans B2.size b1.size))
    have own3 := owns_base (owns_below own ba) B2.size
    have hJ3 : GetJ w.heap.size (w1.alloc (.cells #[.int .i64 (E : Int), .int .i64 (S : Int), .slice a4 m c4] 28)) qs := ⟨fun p hp => by
      obtain ⟨q1, q2, q3⟩ := (hJ.below ba).rows p hp
      exact ⟨q1, Nat.le_trans B2.size q2, q3⟩, hJ.apart⟩
    obtain ⟨G4, hG4⟩ : ∃ g, g = w1.heap.size := ⟨_, rfl⟩
    obtain ⟨W2, hW2⟩ : ∃ u, u = w1.alloc (.cells #[.int .i64 (E : Int), .int .i64 (S : Int), .slice a4 m c4] 28) := ⟨_, rfl⟩
    rw [← hG4, ← hW2] at x4
    rw [← hW2] at x2b B3 own3 hJ3
    have lG4 : w.heap.size < G4 := by
      rw [hG4]
      have h1 := b1.size
      have h2 := x2.lt
      omega
    have HG : Hid (G4 = w1.heap.size) := hG4
    have HW : Hid (W2 = w1.alloc (.cells #[.int .i64 (E : Int), .int .i64 (S : Int), .slice a4 m c4] 28)) := hW2
    clear hG4 hW2 x2 B2 own hJ b1 ba
    have z2 := x4.cell 2
    go_upto_region 4 with fail
    rw [← HW.out, ← HG.out]
    clear HW HG
    by_cases hnm : n = m + 1
    · have hni2 : (n : Int) = (m : Int) + 1 := by omega
      have hnb : ((n : Int) != (m : Int) + 1) = false := by simp [hni2]
      have HNM : Hid (n = m + 1) := hnm
      clear hnm hni2
      have hlq : qs.length = m := by
        have := HSG.out.len
        rw [List.length_map, ← HM.out] at this
        exact this
      have HBL : Hid (∀ i (h : i < qs.length) (h' : i < (saidEs h0l).length), (qs[i]).b = (((saidEs h0l)[i]).1 : Int)) := fun i h h' => by
        have := HSG.out.blk i (by simpa using h) h'
        simpa using this
      have HDT : Hid (∀ i (h : i < qs.length) (h' : i < (saidEs h0l).length), DtK ((saidEs h0l)[i]).2 64 (qs[i]).xs) := fun i h h' => by
        have := HSG.out.dat i (by simpa using h) h'
        simpa using this
      have HLQ : Hid (qs.length = m) := hlq
      clear hlq HSG
      go_wp2_with fail
      clear hnb
      go_loopw [6] (fun v u => ∃ (k : Nat) (ts : List GG), k ≤ m ∧ v = .int .i64 (k : Int) ∧ Box u w.heap.size #[.int .i64 0, .int .i64 0, .slice none 0 0] 28 ∧ Box u G4 #[.int .i64 (E : Int), .int .i64 (S : Int), .slice a4 m c4] 28 ∧ u.ownsRow w.heap.size 38 2 (.slice a4 m c4) m (imgC ts) ∧ GetJ w.heap.size u ts ∧ ts.length = m ∧ (∀ i (h : i < ts.length) (h' : i < (saidEs h0l).length), (ts[i]).b = (((saidEs h0l)[i]).1 : Int)) ∧
          (∀ i (h : i < ts.length) (h' : i < (saidEs h0l).length), i < k → (ls[i + 1]?.getD []).length = 4096 ∧ UhK ((saidEs h0l)[i]).2 (ls[i + 1]?.getD []) 4096 (ts[i]).xs) ∧ (∀ i (h : i < ts.length) (h' : i < (saidEs h0l).length), k ≤ i → DtK ((saidEs h0l)[i]).2 64 (ts[i]).xs) ∧ Below w.heap.size w u) (fun v _ => m - (intOf v).toNat)
      case atStart => exact ⟨0, qs, Nat.zero_le _, rfl, x2b, x4, own3, hJ3, HLQ.out, HBL.out, fun i h h' hh => by omega, fun i h h' _ => HDT.out i h h', B3⟩
      case round =>
        clear x2b x4 own3 hJ3 B3 z2 HBL HDT HLQ qs
        obtain ⟨k, qs, hk, rfl, x2, x4, own, hJ, hlq, hbl, hdn, hto, B⟩ := hrel
        have HLQ : Hid (qs.length = m) := hlq
        have HBL : Hid (∀ i (h : i < qs.length) (h' : i < (saidEs h0l).length), (qs[i]).b = (((saidEs h0l)[i]).1 : Int)) := hbl
        have HDN : Hid (∀ i (h : i < qs.length) (h' : i < (saidEs h0l).length), i < k → (ls[i + 1]?.getD []).length = 4096 ∧ UhK ((saidEs h0l)[i]).2 (ls[i + 1]?.getD []) 4096 (qs[i]).xs) := hdn
        have HTO : Hid (∀ i (h : i < qs.length) (h' : i < (saidEs h0l).length), k ≤ i → DtK ((saidEs h0l)[i]).2 64 (qs[i]).xs) := hto
        clear hlq hbl hdn hto
        have z2 := x4.cell 2
        by_cases hlt : k < m
        · have hkl : k + 1 < ls.length := by rw [HL.out, HNM.out]; omega
          have hkq : k < qs.length := by rw [HLQ.out]; exact hlt
          have hke : k < (saidEs h0l).length := by rw [← HM.out]; exact hlt
          obtain ⟨x, cx, g1, g2, g3, g4, g5⟩ := HLS.out (k + 1) hkl
          have lb : b < w.heap.size := block_lt_of_cell g1
          rw [← B.cell (p := ⟨b, o + (k + 1), none⟩) lb] at g1
          have hbk : Hid (ls[k + 1]?.getD [] = ls[k + 1]'hkl) := by show _ = _; simp [hkl]
          have HD0 : Hid (UhK ((saidEs h0l)[k]).2 (ls[k + 1]'hkl) 0 (qs[k]).xs) := UhK.start (HTO.out k hkq hke (Nat.le_refl _))
          generalize (ls[k + 1]'hkl) = bk at g1 g2 g5 hbk HD0
          have hki : (k : Int) < (m : Int) := by omega
          have hkn : (k : Int) + 1 < (n : Int) := by have := HNM.out; omega
          have hk0 : (0 : Int) ≤ (k : Int) + 1 := by omega
          by_cases h4 : bk.length = 4096
          · rw [h4] at g1 g2
            have H4 : Hid (bk.length = 4096) := h4
            have HRB : Hid (Rd w x bk) := g5
            obtain ⟨gb, ob, rfl, hcb⟩ := g5 (by omega)
            obtain ⟨ga, rfl, lga, ⟨cura, bxa⟩, hca⟩ := owns_cells own (by omega)
            have cA : Hid (∀ ts : List GG, ts.length = m → imgC ts = imgC qs → ∀ u : World, u.ownsRow w.heap.size 38 2 (.slice (some ⟨ga, 0, none⟩) m c4) m (imgC ts) → u.cell? ⟨ga, k * 2 + 1, none⟩ = some (.slice (some ⟨(qs[k]).h, 0, none⟩) 4096 (qs[k]).c)) := fun ts _ hts u hu => by
              obtain ⟨ga', he', _, _, hc'⟩ := owns_cells hu (by omega)
              obtain rfl : ga = ga' := by simpa using he'
              rw [hc' _ (by omega), hts, (imgC_at qs k hkq).2]
            clear h4 hcb g2 g3 g4 g5 hca bxa
            have hself := setX_self qs k hkq
            have X2 : Hid (Box wr w.heap.size #[.int .i64 0, .int .i64 0, .slice none 0 0] 28) := x2
            go_wp2_with fail
            go_loopw [8] (fun v u => ∃ (t : Nat) (Y : List UInt8), t ≤ 4096 ∧ v = .int .i64 (t : Int) ∧ Box u w.heap.size #[.int .i64 0, .int .i64 0, .slice none 0 0] 28 ∧ Box u G4 #[.int .i64 (E : Int), .int .i64 (S : Int), .slice (some ⟨ga, 0, none⟩) m c4] 28 ∧ u.ownsRow w.heap.size 38 2 (.slice (some ⟨ga, 0, none⟩) m c4) m (imgC (setX qs k Y)) ∧ GetJ w.heap.size u (setX qs k Y) ∧ UhK ((saidEs h0l)[k]).2 bk t Y ∧ Below w.heap.size w u) (fun v _ => 4096 - (intOf v).toNat)
            case atStart => exact ⟨0, (qs[k]).xs, by omega, rfl, x2, x4, by rw [hself]; exact own, by rw [hself]; exact hJ, HD0.out, B⟩
            case round =>
              clear x2 x4 own hJ B g1 z2 hself HD0 X2
              obtain ⟨t, Y, ht, rfl, x2, x4, own, hJ, hY, B⟩ := hrel
              by_cases htl : t < 4096
              · have hti : (t : Int) < 4096 := by omega
                by_cases h8 : t % 512 < 8
                · have hi8 : ¬ (8 : Int) ≤ (t : Int) % 512 := by omega
                  have HY : Hid (UhK ((saidEs h0l)[k]).2 bk (t + 1) Y) := hY.skip h8
                  clear h8 hY
                  go_wp2_with fail
                  go_roundw
                  case rel => exact ⟨t + 1, Y, by omega, by push_cast; rfl, x2, x4, own, hJ, HY.out, B⟩
                  case measure => simp [intOf]; omega
                · have hi8 : (8 : Int) ≤ (t : Int) % 512 := by omega
                  have hsl := setX_length qs k Y
                  have hkx : k < (setX qs k Y).length := by rw [hsl]; exact hkq
                  have hat := setX_at qs k Y hkq
                  have c1 := cA.out (setX qs k Y) (by rw [hsl, HLQ.out]) (setX_c _ _ _) wr own
                  have z2 := x4.cell 2
                  obtain ⟨gb', ob', he, hcb⟩ := HRB.out (by rw [H4.out]; omega)
                  obtain ⟨rfl, rfl⟩ : gb = gb' ∧ ob = ob' := by simpa using he
                  have ct := hcb t (by rw [H4.out]; exact htl)
                  have lgb : gb < w.heap.size := block_lt_of_cell ct
                  rw [← B.cell (p := ⟨gb, ob + t, none⟩) lgb] at ct
                  have hv : Hid (bk[t]? = some (bk[t]'(by rw [H4.out]; exact htl))) := List.getElem?_eq_getElem _
                  obtain ⟨q1, q2, q3⟩ := hJ.rows _ (List.getElem_mem hkx)
                  rw [hat] at q1 q2 q3
                  dsimp only at q1 q2 q3
                  obtain ⟨cd, fd⟩ := q1.cellAt (j := t) (by rw [q3]; exact htl)
                  have JB := hJ.byte k hkx t htl (bk[t]'(by rw [H4.out]; exact htl))
                  rw [setX_byte] at JB
                  have hat2 : ((setX qs k Y)[k]'hkx).h = (qs[k]).h := by rw [hat]
                  rw [hat2] at JB
                  generalize (bk[t]'(by rw [H4.out]; exact htl)) = bv at ct hv JB
                  generalize ((Y[t]'(by rw [q3]; exact htl)).toNat : Int) = cz at cd
                  have HY : Hid (UhK ((saidEs h0l)[k]).2 bk (t + 1) (Y.set t bv)) := hY.put htl h8 bv hv.out
                  generalize hhB : (qs[k]).h = hB at c1 cd fd q1 q2 JB
                  generalize (qs[k]).c = cB at c1 q1
                  have JB2 : Hid (GetJ w.heap.size (wr.setCell ⟨hB, t, none⟩ (.int .u8 (bv.toNat : Int))) (setX qs k (Y.set t bv))) := JB
                  obtain ⟨curB, hbB, _⟩ := q1
                  have OB : Hid ((wr.setCell ⟨hB, t, none⟩ (.int .u8 (bv.toNat : Int))).ownsRow w.heap.size 38 2 (.slice (some ⟨ga, 0, none⟩) m c4) m (imgC (setX qs k (Y.set t bv)))) := by
                    have hc := setX_c qs k (Y.set t bv)
                    have hc2 := setX_c qs k Y
                    rw [hc2] at own
                    show World.ownsRow _ _ _ _ _ _ _
                    rw [hc]
                    refine owns_grown own (grown_store _ _ _ _) (fun g h1 h2 => ?_)
                    injection h2 with h2
                    subst h2
                    obtain ⟨_, cur, hb⟩ := owns_block own _ h1
                    exact Box.ne hbB hb (by decide) rfl
                  have X2 : Hid (Box (wr.setCell ⟨hB, t, none⟩ (.int .u8 (bv.toNat : Int))) w.heap.size #[.int .i64 0, .int .i64 0, .slice none 0 0] 28) := (heap_setCell_other wr ⟨hB, t, none⟩ w.heap.size _ (Box.ne x2 hbB (by decide))).trans x2
                  have X4 : Hid (Box (wr.setCell ⟨hB, t, none⟩ (.int .u8 (bv.toNat : Int))) G4 #[.int .i64 (E : Int), .int .i64 (S : Int), .slice (some ⟨ga, 0, none⟩) m c4] 28) := (heap_setCell_other wr ⟨hB, t, none⟩ G4 _ (Box.ne x4 hbB (by decide))).trans x4
                  have BB : Hid (Below w.heap.size w (wr.setCell ⟨hB, t, none⟩ (.int .u8 (bv.toNat : Int)))) := B.setCell (p := ⟨hB, t, none⟩) q2 _
                  have n4 : hB ≠ G4 := Box.ne hbB x4 (by decide)
                  have n4' := n4.symm
                  have na : hB ≠ ga := by
                    obtain ⟨_, cur, hb⟩ := owns_block own ga rfl
                    exact Box.ne hbB hb (by decide)
                  have na' := na.symm
                  have nb : hB ≠ gb := by omega
                  have nb' := nb.symm
                  have hk00 : (0 : Int) ≤ (k : Int) := by omega
                  have ht0 : (0 : Int) ≤ (t : Int) := by omega
                  clear x2 x4 own hJ hY B JB hcb he hsl hkx hat hat2 q2 q3 hbB hhB h8 lgb
                  go_wp2_with fail
                  go_region_held3 (fun u => u.cell? ⟨G4, 2, none⟩ = some (.slice (some ⟨ga, 0, none⟩) m c4) ∧ u.cell? ⟨ga, k * 2 + 1, none⟩ = some (.slice (some ⟨hB, 0, none⟩) 4096 cB) ∧ u.cell? ⟨gb, ob + t, none⟩ = some (.int .u8 (bv.toNat : Int))) (go_keep) (fail)
                  have bd := (Below.refl (wr.setCell ⟨hB, t, none⟩ (.int .u8 (bv.toNat : Int))).heap.size (wr.setCell ⟨hB, t, none⟩ (.int .u8 (bv.toNat : Int)))).drew
                  clear z2 c1 ct cd fd
                  go_wp2_with fail
                  go_roundw
                  case rel => exact ⟨t + 1, _, by omega, by push_cast; rfl, X2.out.below bd, X4.out.below bd, owns_below OB.out bd, JB2.out.below bd, HY.out, BB.out.drew⟩
                  case measure => simp [intOf]; omega
              · have ht2 : t = 4096 := by omega
                rw [ht2] at hY ⊢
                clear ht2 htl ht
                have hsl := setX_length qs k Y
                have HD2 : Hid (∀ i (h : i < (setX qs k Y).length) (h' : i < (saidEs h0l).length), i < k + 1 → (ls[i + 1]?.getD []).length = 4096 ∧ UhK ((saidEs h0l)[i]).2 (ls[i + 1]?.getD []) 4096 ((setX qs k Y)[i]).xs) := fun i h h' hik => by
                  by_cases e : i = k
                  · subst e
                    rw [setX_at _ _ _ hkq, hbk.out]
                    exact ⟨H4.out, hY⟩
                  · have hi : i < qs.length := by rw [hsl] at h; exact h
                    rw [setX_other _ _ _ _ hi e]
                    exact HDN.out i hi h' (by omega)
                have HT2 : Hid (∀ i (h : i < (setX qs k Y).length) (h' : i < (saidEs h0l).length), k + 1 ≤ i → DtK ((saidEs h0l)[i]).2 64 ((setX qs k Y)[i]).xs) := fun i h h' hik => by
                  have hi : i < qs.length := by rw [hsl] at h; exact h
                  rw [setX_other _ _ _ _ hi (by omega)]
                  exact HTO.out i hi h' (by omega)
                have HB2 : Hid (∀ i (h : i < (setX qs k Y).length) (h' : i < (saidEs h0l).length), ((setX qs k Y)[i]).b = (((saidEs h0l)[i]).1 : Int)) := fun i h h' => by
                  have hi : i < qs.length := by rw [hsl] at h; exact h
                  by_cases e : i = k
                  · subst e
                    rw [setX_at _ _ _ hkq]
                    exact HBL.out i hi h'
                  · rw [setX_other _ _ _ _ hi e]
                    exact HBL.out i hi h'
                have HL2 : Hid ((setX qs k Y).length = m) := by show _ = _; rw [hsl, HLQ.out]
                clear hsl hY
                go_wp2_with fail
                go_roundw
                case rel => exact ⟨k + 1, _, by omega, by push_cast; rfl, x2, x4, own, hJ, HL2.out, HB2.out, HD2.out, HT2.out, B⟩
                case measure => simp [intOf]; omega
          · have hno : Hid (¬ isGrp ls) := fun h => by
              have hs := h.2.2.2 k (by rw [← HH0.out]; exact hke)
              unfold stampedB at hs
              simp only [Bool.and_eq_true, decide_eq_true_eq] at hs
              rw [hbk.out] at hs
              exact h4 hs.1
            obtain ⟨L, hLd⟩ : ∃ L, L = bk.length := ⟨_, rfl⟩
            rw [← hLd] at g1 h4
            have hnb : ((L : Int) == 4096) = false := by simp; omega
            have hnb2 : ((L : Int) != 4096) = true := by simp; omega
            obtain ⟨XF, BF⟩ := zeros_back x2 B
            have d0 := XF.cell 0
            have d1 := XF.cell 1
            have d2 := XF.cell 2
            simp at d0 d1 d2
            have y0 := x2.cell 0
            have y1 := x2.cell 1
            have y2 := x2.cell 2
            have k0 := x2.frozen 0
            have k1 := x2.frozen 1
            have k2 := x2.frozen 2
            clear h4 hLd
            go_wp2_with fail
            refine bodyPost_ret (v := .tuple #[.agg #[.int .i64 0, .int .i64 0, .slice none 0 0], .int .i64 80]) (by simp [results, Try.results21, go_sem, d0, d1, d2]) rfl ?_
            exact .inr ⟨hno.out, rfl, BF⟩
        · have hke : k = m := by omega
          have hUG : UhG ls (qs.map fun p => (p.b, p.xs)) := by
            refine ⟨by rw [List.length_map, HLQ.out, HM.out, HH0.out], fun i h h' => ?_, fun i h h' => ?_⟩
            · have hi : i < qs.length := by simpa using h
              have := HBL.out i hi (by rw [HH0.out]; exact h')
              simp only [List.getElem_map]
              rw [this]
              simp [HH0.out]
            · have hi : i < qs.length := by simpa using h
              have := (HDN.out i hi (by rw [HH0.out]; exact h') (by rw [HLQ.out] at hi; omega)).2
              simp only [List.getElem_map]
              simpa [HH0.out] using this
          have hhd : isHead (ls[0]?.getD []) := by rw [← HH0.out]; exact HHD.out
          have h4 : ∀ j, j < (saidEs (ls[0]?.getD [])).length → (ls[j + 1]?.getD []).length = 4096 := fun j hj => by
            have hjm : j < m := by rw [HM.out, HH0.out]; exact hj
            exact (HDN.out j (by rw [HLQ.out]; exact hjm) (by rw [HH0.out]; exact hj) (by omega)).1
          have hln : ls.length = (saidEs (ls[0]?.getD [])).length + 1 := by rw [HL.out, HNM.out, HM.out, HH0.out]
          have hok := hUG.ok hhd
          have hgrp := hUG.grp hhd hln h4
          have himg := hUG.imgs hhd h4
          rw [← HH0.out] at hok hgrp himg
          rw [← HE.out, ← HS.out] at hok hgrp
          have hI := imgs_of own hJ HLQ.out
          obtain ⟨is, his⟩ : ∃ is, is = qs.map fun p => (p.b, p.xs) := ⟨_, rfl⟩
          have hil : is.length = m := by rw [his, List.length_map, HLQ.out]
          rw [← his] at hok hgrp himg hI
          have HOK : Hid (okGroup (E : Int) (S : Int) is) := hok
          have HGRP : Hid (isGrp ls ↔ putL E S is = ls) := hgrp
          have HIMG : Hid (imgsTo ls (saidEs h0l) (saidEs h0l).length = is) := himg
          have HIL : Hid (is.length = m) := hil
          have HIS : Hid (is = qs.map fun p => (p.b, p.xs)) := his
          rw [hke]
          clear hke hlt hk hUG hhd h4 hln hok hgrp himg his hil HDN HTO HBL
          have z0 := x4.cell 0
          have z1 := x4.cell 1
          have cP := rputG_any (E : Int) (S : Int) a4 m c4 is wr HIL.out hI
          go_wp2_with fail
          refine cP.mono ?_
          clear cP
          rintro r w5 (⟨E', S', hE', hS', _, gl, cl, rfl, hLs, b5⟩ | ⟨hbad, _⟩)
          case inr => exact absurd HOK.out hbad
          obtain rfl : E = E' := by omega
          obtain rfl : S = S' := by omega
          have B5 := B.trans (b5.mono B.size)
          have hLL : Lsts w (some ⟨b, o, none⟩) ls := fun _ => ⟨b, o, rfl, HLS.out⟩
          have cS := sameLists_at (some ⟨gl, 0, none⟩) (some ⟨b, o, none⟩) (m + 1) cl n cap (putL E S is) ls w5 (by rw [putL_length, HIL.out]) HL.out (by omega) hLs (hLL.below B5)
          have x2b := x2.below b5
          have x4b := x4.below b5
          have own5 := owns_below own b5
          have J5 := hJ.below b5
          clear z0 z1 z2 hE' hS' hLs hLL x2 x4 own hJ hI B b5
          go_wp2_with fail
          refine cS.mono ?_
          clear cS
          rintro r w6 ⟨rfl, b6⟩
          have x2c := x2b.below b6
          have x4c := x4b.below b6
          have own6 := owns_below own5 b6
          have J6 := J5.below b6
          have B6 := B5.trans (b6.mono B5.size)
          have y0 := x2c.cell 0
          have y1 := x2c.cell 1
          have y2 := x2c.cell 2
          have k0 := x2c.frozen 0
          have k1 := x2c.frozen 1
          have k2 := x2c.frozen 2
          have z0 := x4c.cell 0
          have z1 := x4c.cell 1
          have z2 := x4c.cell 2
          by_cases hg : isGrp ls
          · rw [decide_eq_true (HGRP.out.1 hg)]
            have HG : Hid (isGrp ls) := hg
            have XF : Box (((w6.setCell ⟨w.heap.size, 0, none⟩ (.int .i64 (E : Int))).setCell ⟨w.heap.size, 1, none⟩ (.int .i64 (S : Int))).setCell ⟨w.heap.size, 2, none⟩ (.slice a4 m c4)) w.heap.size #[.int .i64 (E : Int), .int .i64 (S : Int), .slice a4 m c4] 28 := by simpa using ((x2c.store 0 (.int .i64 (E : Int))).store 1 (.int .i64 (S : Int))).store 2 (.slice a4 m c4)
            have d0 := XF.cell 0
            have d1 := XF.cell 1
            have d2 := XF.cell 2
            simp at d0 d1 d2
            have BF := ((B6.setCell (p := ⟨w.heap.size, 0, none⟩) (Nat.le_refl _) (.int .i64 (E : Int))).setCell (p := ⟨w.heap.size, 1, none⟩) (Nat.le_refl _) (.int .i64 (S : Int))).setCell (p := ⟨w.heap.size, 2, none⟩) (Nat.le_refl _) (.slice a4 m c4)
            have hIF : Imgs (((w6.setCell ⟨w.heap.size, 0, none⟩ (.int .i64 (E : Int))).setCell ⟨w.heap.size, 1, none⟩ (.int .i64 (S : Int))).setCell ⟨w.heap.size, 2, none⟩ (.slice a4 m c4)) a4 is := by
              obtain ⟨o1, p1⟩ := ownJ_put (j := 0) (v := .int .i64 (E : Int)) own6 J6 x2c
              obtain ⟨o2, p2⟩ := ownJ_put (j := 1) (v := .int .i64 (S : Int)) o1 p1 (x2c.store 0 _)
              obtain ⟨o3, p3⟩ := ownJ_put (j := 2) (v := .slice a4 m c4) o2 p2 ((x2c.store 0 _).store 1 _)
              rw [HIS.out]
              exact imgs_of o3 p3 HLQ.out
            clear own6 J6 own5 J5
            clear hg
            go_wp2_with fail
            refine bodyPost_ret (v := .tuple #[.agg #[.int .i64 (E : Int), .int .i64 (S : Int), .slice a4 m c4], .int .i64 0]) (by simp [results, Try.results21, go_sem, d0, d1, d2]) rfl ?_
            refine .inl ⟨HG.out, a4, c4, ?_, ?_, BF⟩
            · rw [← HH0.out, ← HE.out, ← HS.out, ← HM.out]
            · rw [← HH0.out, HIMG.out]
              exact hIF
          · rw [decide_eq_false (fun e => hg (HGRP.out.2 e))]
            have HG : Hid (¬ isGrp ls) := hg
            obtain ⟨XF, BF⟩ := zeros_back x2c B6
            have d0 := XF.cell 0
            have d1 := XF.cell 1
            have d2 := XF.cell 2
            simp at d0 d1 d2
            clear hg
            go_wp2_with fail
            refine bodyPost_ret (v := .tuple #[.agg #[.int .i64 0, .int .i64 0, .slice none 0 0], .int .i64 80]) (by simp [results, Try.results21, go_sem, d0, d1, d2]) rfl ?_
            exact .inr ⟨HG.out, rfl, BF⟩
    · have hnb : ((n : Int) == (m : Int) + 1) = false := by simp; omega
      have hnb2 : ((n : Int) != (m : Int) + 1) = true := by simp; omega
      have hno : Hid (¬ isGrp ls) := fun h => hnm (by
        have := h.2.2.1
        rw [HL.out, ← HH0.out, ← HM.out] at this
        exact this)
      obtain ⟨XF, BF⟩ := zeros_back x2b B3
      have d0 := XF.cell 0
      have d1 := XF.cell 1
      have d2 := XF.cell 2
      simp at d0 d1 d2
      have y0 := x2b.cell 0
      have y1 := x2b.cell 1
      have y2 := x2b.cell 2
      have k0 := x2b.frozen 0
      have k1 := x2b.frozen 1
      have k2 := x2b.frozen 2
      clear hnm
      go_wp2_with fail
      refine bodyPost_ret (v := .tuple #[.agg #[.int .i64 0, .int .i64 0, .slice none 0 0], .int .i64 80]) (by simp [results, Try.results21, go_sem, d0, d1, d2]) rfl ?_
      exact .inr ⟨hno.out, rfl, BF⟩
  · have hno : Hid (¬ isGrp ls) := fun h => hhd (by rw [HH0.out]; exact h.2.1)
    have x2b := (x2.below b1).alloc (.cells #[.int .i64 e, .int .i64 s, .slice a' n' c'] 28)
    have B3 := (B2.trans (b1.mono B2.size)).alloc (Nat.le_trans B2.size b1.size) (.cells #[.int .i64 e, .int .i64 s, .slice a' n' c'] 28)
    obtain ⟨XF, BF⟩ := zeros_back x2b B3
    have d0 := XF.cell 0
    have d1 := XF.cell 1
    have d2 := XF.cell 2
    simp at d0 d1 d2
    have y0 := x2b.cell 0
    have y1 := x2b.cell 1
    have y2 := x2b.cell 2
    have k0 := x2b.frozen 0
    have k1 := x2b.frozen 1
    have k2 := x2b.frozen 2
    clear hhd g1
    go_wp2_with fail
    refine bodyPost_ret (v := .tuple #[.agg #[.int .i64 0, .int .i64 0, .slice none 0 0], .int .i64 80]) (by simp [results, Try.results21, go_sem, d0, d1, d2]) rfl ?_
    exact .inr ⟨hno.out, rfl, BF⟩
end Go.Proofs.Ytghcmlkgpedkkaa
