/-
  find.
-/
import Derived.Test.YtlbjalodjcajfaaGreatSea
namespace Go.Proofs.YtlbjalodjcajfaaGreat
open Go.RowKit Go.Maps
/-- where a key stands in a right list, or would stand -/
def posOf (l : List En) (key : ByteArray) : Nat := pos l (pFrom key)
def hasK (l : List En) (key : ByteArray) : Bool := match l[posOf l key]? with
  | none => false
  | some e => e.u && decide (e.k = key)
theorem pAbove_up (key a b : ByteArray) (h : blt a b = true) (k : pAbove key a = true) : pAbove key b = true := blt_trans k h
theorem pFrom_up (key a b : ByteArray) (h : blt a b = true) (k : pFrom key a = true) : pFrom key b = true := by
  unfold pFrom at *
  cases hb : blt b key with
  | false => rfl
  | true => rw [blt_trans h hb] at k; exact k
theorem pNone_up (a b : ByteArray) (_ : blt a b = true) (k : pNone a = true) : pNone b = true := k
set_option maxRecDepth 100000 in
set_option maxHeartbeats 4000000 in
theorem find_at {u : World} {a : Option Addr} {l : List En} {n c : Nat} (hl : RdE u a l) (hn : l.length = n) (h2 : n ≤ 1024) (hr : Rgt l = true) (key : ByteArray) :
    Calls Tryz.prog 21 #[.slice a n c, .string key] u fun r w' => r = .returned (.tuple #[.int .i64 (posOf l key : Int), .bool (hasK l key)]) ∧ Below u.heap.size u w' := by
  have bb : Below u.heap.size u (u.alloc (.cells #[.string key] 9)) := (Below.refl _ _).alloc (Nat.le_refl _) _
  have bk : Box (u.alloc (.cells #[.string key] 9)) u.heap.size #[.string key] 9 := Box.new u _ _
  have cp := place51 (c := c) bk (hl.below bb) hn h2 (rgt_mono hr (pFrom_up key))
  have hpl : pos l (pFrom key) ≤ n := by rw [← hn]; exact tw_le (fun e : En => e.u && !(pFrom key) e.k) l
  have H := hid (And.intro hl (And.intro bb bk))
  have HQ : Hid (hasK l key = match l[pos l (pFrom key)]? with | none => false | some e => e.u && decide (e.k = key)) := rfl
  unfold posOf
  generalize pos l (pFrom key) = q at *
  generalize hasK l key = z at *
  clear hl bb bk hr
  unfold ptr at *
  go_enter Tryz.func21, Tryz.ntmps21
  go_wp2_with fail
  refine cp.mono ?_
  rintro e w1 ⟨rfl, hb⟩
  have HB := hid (H.out.2.1.trans (hb.mono H.out.2.1.size))
  have k0 : w1.cell? ⟨u.heap.size, 0, none⟩ = some (.string key) := (H.out.2.2.below hb H.out.2.2.lt).cell 0
  clear cp hb
  by_cases hlt : q < n
  · have hki : (q : Int) < (n : Int) := by omega
    have hql : q < l.length := by omega
    have hx := List.getElem?_eq_getElem hql
    obtain ⟨x, hxe⟩ : ∃ x, x = l[q] := ⟨_, rfl⟩
    rw [← hxe] at hx
    obtain ⟨b, o, rfl, hb', d0, d1, d2⟩ := (H.out.1.below HB.out) q x hx
    have hz := HQ.out
    rw [hx] at hz
    obtain ⟨xu, xk, xv⟩ := x
    simp only at hz d0 d1 d2
    clear hxe hx HQ H hb'
    cases xu with
    | false =>
      simp only [Bool.false_and] at hz
      subst hz
      go_wp2_with fail
      go_quiet (fail)
      go_wp2_with fail
      go_ret2
      exact ⟨rfl, HB.out.trans ⟨rfl, rfl, rfl, Nat.le_refl _, fun _ _ => rfl⟩⟩
    | true =>
      have he := toList_beq xk key
      simp only [Bool.true_and] at hz
      rw [← hz] at he
      clear hz
      go_wp2_with fail
      go_quiet (fail)
      go_wp2_with fail
      go_ret2
      exact ⟨rfl, HB.out.trans ⟨rfl, rfl, rfl, Nat.le_refl _, fun _ _ => rfl⟩⟩
  · have hki : ¬ (q : Int) < (n : Int) := by omega
    have hz := HQ.out
    rw [List.getElem?_eq_none (by omega)] at hz
    simp only at hz
    subst hz
    clear HQ H
    go_wp2_with fail
    go_quiet (fail)
    go_wp2_with fail
    go_ret2
    exact ⟨rfl, HB.out.trans ⟨rfl, rfl, rfl, Nat.le_refl _, fun _ _ => rfl⟩⟩
end Go.Proofs.YtlbjalodjcajfaaGreat
