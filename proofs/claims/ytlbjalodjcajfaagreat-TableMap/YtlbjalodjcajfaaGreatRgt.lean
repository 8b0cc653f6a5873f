/-
  Right.
-/
import Derived.Test.YtlbjalodjcajfaaGreatOrd
import Derived.Deep.CutRange
import Derived.Deep.CutBlock
namespace Go.Proofs.YtlbjalodjcajfaaGreat
open Go.RowKit Go.Maps
/-- entries that may be read -/
def RdE (u : World) (a : Option Addr) (l : List En) : Prop := ∀ i e, l[i]? = some e → ∃ b o, a = some ⟨b, o, none⟩ ∧ b < u.heap.size ∧ u.cell? ⟨b, o + i * 3, none⟩ = some (.bool e.u) ∧ u.cell? ⟨b, o + i * 3 + 1, none⟩ = some (.string e.k) ∧ u.cell? ⟨b, o + i * 3 + 2, none⟩ = some (.string e.v)
theorem RdE.below {u u' : World} {a : Option Addr} {l : List En} (h : RdE u a l) (hb : Below u.heap.size u u') : RdE u' a l := fun i e hi => by
  obtain ⟨b, o, h1, h2, h3, h4, h5⟩ := h i e hi
  exact ⟨b, o, h1, Nat.lt_of_lt_of_le h2 hb.size, (hb.cell (p := ⟨b, _, none⟩) h2).trans h3, (hb.cell (p := ⟨b, _, none⟩) h2).trans h4, (hb.cell (p := ⟨b, _, none⟩) h2).trans h5⟩
theorem rdE_box {u : World} {q : Nat} {l : List En} {cs : Array Value} {t : TypeId} (h : Box u q cs t) (hc : cs.toList.take (l.length * 3) = flat eE l) : RdE u (some ⟨q, 0, none⟩) l := fun i e hi => by
  have hl := (List.getElem?_eq_some_iff.1 hi).1
  have hg := flat_get eE hi
  rw [← hc] at hg
  simp only [List.getElem?_take] at hg
  rw [if_pos (by omega), if_pos (by omega), if_pos (by omega)] at hg
  refine ⟨q, 0, rfl, h.lt, ?_, ?_, ?_⟩
  · rw [h.cell, show 0 + i * 3 = i * 3 by omega]; simpa [eE] using hg.1
  · rw [h.cell, show 0 + i * 3 + 1 = i * 3 + 1 by omega]; simpa [eE] using hg.2.1
  · rw [h.cell, show 0 + i * 3 + 2 = i * 3 + 2 by omega]; simpa [eE] using hg.2.2
theorem rdE_flat {u : World} {q : Nat} {l : List En} {t : TypeId} (h : Box u q (flat eE l).toArray t) : RdE u (some ⟨q, 0, none⟩) l := rdE_box h (by rw [← flat_len eE, List.toList_toArray, List.take_length])
/-- what is asked of the entry at i -/
def okAt (l : List En) (i : Nat) : Bool := match l[i]? with
  | none => true
  | some e => if e.u then (match i with
    | 0 => true
    | i + 1 => match l[i]? with
      | none => true
      | some p => p.u && blt p.k e.k) else decide (e = E0)
def Rgt (l : List En) : Bool := (List.range l.length).all (okAt l)
theorem rgt_iff {l : List En} : Rgt l = true ↔ ∀ i, i < l.length → okAt l i = true := by
  unfold Rgt
  rw [List.all_eq_true]
  exact ⟨fun h i hi => h i (List.mem_range.2 hi), fun h i hi => h i (List.mem_range.1 hi)⟩
theorem not_rgt {l : List En} {i : Nat} (hi : i < l.length) (h : okAt l i = false) : Rgt l = false := by
  cases hr : Rgt l with
  | false => rfl
  | true => rw [rgt_iff.1 hr i hi] at h; cases h
set_option maxRecDepth 100000 in
set_option maxHeartbeats 4000000 in
theorem right_at {w : World} {a : Option Addr} {l : List En} {n c : Nat} (h : RdE w a l) (hl : l.length = n) (hn : n ≤ 9223372036854775807) : Calls Tryz.prog 10 #[.slice a n c] w fun r w' => r = .returned (.bool (Rgt l)) ∧ Below w.heap.size w w' := by
  have HR := hid h
  have HL := hid hl
  clear h hl
  have hne := fun u => neq27 u
  have hgd := guardN27 .neq
  unfold ag at *
  go_enter Tryz.func10, Tryz.ntmps10
  go_wp2_with fail
  go_loopw [7] (fun i u => ∃ j : Nat, j ≤ n ∧ i = .int .i64 (j : Int) ∧ Hid (Below w.heap.size w u ∧ ∀ i, i < j → okAt l i = true)) (fun i _ => n - (iof i).toNat)
  case atStart => exact ⟨0, Nat.zero_le _, by simp, Below.refl _ _, fun i hi => by omega⟩
  case round =>
    obtain ⟨j, hj, rfl, hrel⟩ := hrel
    by_cases hlt : j < n
    · have hki : (j : Int) < (n : Int) := by omega
      have hjl : j < l.length := by rw [HL.out]; exact hlt
      have hx := List.getElem?_eq_getElem hjl
      obtain ⟨x, hxe⟩ : ∃ x, x = l[j] := ⟨_, rfl⟩
      rw [← hxe] at hx
      obtain ⟨b, o, rfl, hb, c0, c1, c2⟩ := (HR.out.below hrel.out.1) j x hx
      have HO : Hid (okAt l j = if x.u then (match j with | 0 => true | i + 1 => match l[i]? with | none => true | some p => p.u && blt p.k x.k) else decide (x = E0)) := by unfold okAt; rw [hx]; rfl
      have HB : Hid (∀ o', Below w.heap.size w (wr.alloc o')) := fun o' => hrel.out.1.alloc hrel.out.1.size o'
      have hnx := fun u => hne u x E0
      obtain ⟨xu, xk, xv⟩ := x
      simp only [E0] at hnx c0 c1 c2
      have HJ := hid hjl
      clear hxe hne hjl
      have hz : (zeroValue 28).run Tryz.prog (wr.alloc (.cells #[.bool xu, .string xk, .string xv] 28)) = .ok (.agg #[.bool false, .string ⟨#[]⟩, .string ⟨#[]⟩]) (wr.alloc (.cells #[.bool xu, .string xk, .string xv] 28)) := Tryz.zeroValue28 _
      cases xu with
      | false =>
        simp only [Bool.false_eq_true, if_false] at HO
        by_cases hE : (⟨false, xk, xv⟩ : En) = E0
        · have hd : decide ((⟨false, xk, xv⟩ : En) = E0) = true := decide_eq_true hE
          have HF : Hid (∀ o' q, Below w.heap.size w ((wr.alloc o').drewN q) ∧ ∀ i, i < j + 1 → okAt l i = true) := fun o' q => ⟨below_drewN (HB.out o') q, fun i hi => by
            by_cases e : i = j
            · subst e; rw [HO.out]; exact hd
            · exact hrel.out.2 i (by omega)⟩
          simp only [E0] at hd
          simp only [hd, Bool.not_true] at hnx
          clear hrel HO HB hE hd
          go_wp2_with fail
          go_quiet (fail)
          go_wp2_with fail
          go_roundw
          case rel => exact ⟨j + 1, by omega, by simp, HF.out _ _⟩
          case measure => simp only [iof]; omega
        · have hd : decide ((⟨false, xk, xv⟩ : En) = E0) = false := decide_eq_false hE
          have HF : Hid (Rgt l = false ∧ ∀ o', Below w.heap.size w (wr.alloc o')) := ⟨not_rgt HJ.out (by rw [HO.out]; exact hd), HB.out⟩
          simp only [E0] at hd
          simp only [hd, Bool.not_false] at hnx
          clear hrel HO HB hE hd
          go_wp2_with fail
          go_ret
          exact ⟨by rw [HF.out.1]; rfl, HF.out.2 _⟩
      | true =>
        simp only [if_true] at HO
        by_cases hj0 : j = 0
        · subst hj0
          simp only [Nat.zero_mul, Nat.add_zero] at c0 c1 c2
          have HF : Hid (∀ o' q, Below w.heap.size w ((wr.alloc o').drewN q) ∧ ∀ i, i < 1 → okAt l i = true) := fun o' q => ⟨below_drewN (HB.out o') q, fun i hi => by
            obtain rfl : i = 0 := by omega
            rw [HO.out]⟩
          clear hrel HO HB hnx
          go_wp2_with fail
          go_quiet (fail)
          go_wp2_with fail
          go_roundw
          case rel => exact ⟨1, by omega, by simp, HF.out _ _⟩
          case measure => simp only [iof]; omega
        · obtain ⟨m, rfl⟩ : ∃ m, j = m + 1 := ⟨j - 1, by omega⟩
          have hml : m < l.length := by rw [HL.out]; omega
          have hy := List.getElem?_eq_getElem hml
          obtain ⟨y, hye⟩ : ∃ y, y = l[m] := ⟨_, rfl⟩
          rw [← hye] at hy
          obtain ⟨b', o', hbo, hb', d0, d1, d2⟩ := (HR.out.below (hrel.out.1.alloc hrel.out.1.size (.cells #[.bool true, .string xk, .string xv] 28))) m y hy
          injection hbo with hbo
          injection hbo with hb1 hb2
          subst hb1 hb2
          simp only at HO
          rw [hy] at HO
          obtain ⟨yu, yk, yv⟩ := y
          simp only at HO d0 d1 d2
          have hgt0 : (0 : Int) < (m : Int) + 1 := by omega
          have r1 : IntKind.i64.wrap (m : Int) = (m : Int) := by rw [IntKind.wrap_i64]; omega
          have r3 : (m : Int) < (n : Int) := by omega
          clear hye hml hy hb' hnx hj0
          cases yu with
          | false =>
            have HF : Hid (Rgt l = false ∧ ∀ o' q, Below w.heap.size w ((wr.alloc o').drewN q)) := ⟨not_rgt HJ.out (by rw [HO.out]; rfl), fun o' q => below_drewN (HB.out o') q⟩
            clear hrel HO HB
            go_wp2_with fail
            go_quiet (fail)
            go_wp2_with fail
            go_ret
            exact ⟨by rw [HF.out.1]; rfl, HF.out.2 _ _⟩
          | true =>
            have hbl : Op.bytesLess yk.toList xk.toList = blt yk xk := rfl
            simp only [Bool.true_and] at HO
            cases hlt2 : blt yk xk with
            | false =>
              rw [hlt2] at hbl HO
              have HF : Hid (Rgt l = false ∧ ∀ o' q, Below w.heap.size w ((wr.alloc o').drewN q)) := ⟨not_rgt HJ.out HO.out, fun o' q => below_drewN (HB.out o') q⟩
              clear hrel HO HB
              go_wp2_with fail
              go_quiet (fail)
              go_wp2_with fail
              go_ret
              exact ⟨by rw [HF.out.1]; rfl, HF.out.2 _ _⟩
            | true =>
              rw [hlt2] at hbl HO
              have HF : Hid (∀ o' q, Below w.heap.size w ((wr.alloc o').drewN q) ∧ ∀ i, i < m + 1 + 1 → okAt l i = true) := fun o' q => ⟨below_drewN (HB.out o') q, fun i hi => by
                by_cases e : i = m + 1
                · subst e; exact HO.out
                · exact hrel.out.2 i (by omega)⟩
              clear hrel HO HB
              go_wp2_with fail
              go_quiet (fail)
              go_wp2_with fail
              go_roundw
              case rel => exact ⟨m + 1 + 1, by omega, by simp, HF.out _ _⟩
              case measure => simp only [iof]; omega
    · have hki : ¬ (j : Int) < (n : Int) := by omega
      have hjn : j = n := by omega
      have hr : Rgt l = true := rgt_iff.2 (fun i hi => hrel.out.2 i (by rw [hjn, ← HL.out]; exact hi))
      have HB := hid (And.intro hr hrel.out.1)
      clear hrel hjn hr HL HR
      go_wp2_with fail
      go_ret
      exact ⟨by rw [HB.out.1]; rfl, HB.out.2⟩
end Go.Proofs.YtlbjalodjcajfaaGreat
