/-
  Lists of texts that are made by appending; a list copied.
-/
import Derived.Test.YtcadnhjiodlpcaaDoorRnm
import Derived.OwnWalk
namespace Go.Proofs.YtcadnhjiodlpcaaDoor
open Go.RowKit
def sv (xs : List Tx) : List Value := xs.map fun x => .string (bs x)
theorem sv_append (xs : List Tx) (x : Tx) : sv (xs ++ [x]) = sv xs ++ [.string (bs x)] := by simp [sv]
/-- A list of texts of one's own. -/
def OT (w : World) (B : Nat) (v : Value) (xs : List Tx) : Prop := w.ownsRow B 9 1 v xs.length (sv xs)
theorem OT.nil (w : World) (B : Nat) : OT w B (.slice none 0 0) [] := World.ownsRow_nil _ _ _ _
theorem OT.ts {w : World} {B : Nat} {v : Value} {xs : List Tx} (h : OT w B v xs) : ∃ a c, v = .slice a xs.length c ∧ Ts w a xs ∧ xs.length ≤ c ∧ c ≤ maxLen := by
  rcases h.2 with ⟨rfl, h0⟩ | ⟨g, cap, cur, rfl, hb, hg, h1, h2, _, ht⟩
  · rw [h0]
    obtain rfl := List.eq_nil_of_length_eq_zero h0
    exact ⟨none, 0, rfl, Ts.nil _ _, Nat.le_refl _, by simp [maxLen]⟩
  · refine ⟨_, _, rfl, fun _ => ⟨g, 0, rfl, (Array.getElem?_eq_some_iff.1 hg).1, fun j hj => ?_⟩, h1, h2⟩
    rw [Nat.zero_add, cell_of_row w g j cur 9 (0, 0) hg]
    have : (cur.toList.take (xs.length * 1))[j]? = (sv xs)[j]? := by rw [ht]
    rw [List.getElem?_take, if_pos (by omega)] at this
    rw [Array.getElem?_toList] at this
    rw [this]
    simp [sv, hj]
theorem infoS : (Tryd.prog.info? 9).map (fun i => (i.zero, i.size, i.bytes)) = some (some (.string ⟨#[]⟩), 1, 16) := by kernel_rfl
theorem one_cell {w : World} {v : Value} {t : TypeId} : ∀ (j : Nat) (u : Value), [v][j]? = some u → (w.alloc (.cells #[v] t)).cell? ((⟨w.heap.size, 0, none⟩ : Addr).add j) = some u := by
  intro j u hj
  match j, hj with
  | 0, hj =>
    simp at hj
    subst hj
    rw [Addr.add_lit]
    exact cell_of_row _ _ 0 _ t (0, 0) (heap_alloc_new w _)
set_option maxRecDepth 100000 in
theorem copy_at {w : World} {a : Option Addr} {xs : List Tx} {c : Nat} (hl : xs.length ≤ 1000) (h : Ts w a xs) :
    Calls Tryd.prog 12 #[.slice a xs.length c] w fun e w' => ∃ a' c', e = .returned (.slice a' xs.length c') ∧ Ts w' a' xs ∧ xs.length ≤ c' ∧ c' ≤ maxLen ∧ Below w.heap.size w w' := by
  obtain ⟨i0, hi0, hz0, hz1, hz2⟩ := info_parts infoS
  obtain ⟨n, hn⟩ : ∃ n, n = xs.length := ⟨_, rfl⟩
  rw [← hn] at hl ⊢
  have HN := hid hn
  have HA := hid h
  clear h hn
  go_enter Tryd.func12, Tryd.ntmps12
  go_wp2_with fail
  go_loopw [3, 4] (fun v i u => ∃ k : Nat, k ≤ n ∧ i = .int .i64 (k : Int) ∧ Hid (OT u w.heap.size v (xs.take k) ∧ Below w.heap.size w u)) (fun _ i _ => n - (iof i).toNat)
  case atStart => exact ⟨0, Nat.zero_le _, by simp, OT.nil _ _, Below.refl _ _⟩
  case round =>
    obtain ⟨k, hk, rfl, hrel⟩ := hrel
    by_cases hlt : k < n
    · have hkl : k < xs.length := by rw [← HN.out]; exact hlt
      have hki : (k : Int) < (n : Int) := by omega
      obtain ⟨b, o, rfl, hb, hc⟩ := HA.out (by omega)
      have cc := (hrel.out.2.cell (p := ⟨b, o + k, none⟩) hb).trans (hc k hkl)
      have wr1 : IntKind.i64.wrap ((k : Int) + 1) = ((k + 1 : Nat) : Int) := by rw [IntKind.wrap_i64]; omega
      have HS : Hid (xs.take (k + 1) = xs.take k ++ [xs[k]'hkl]) := List.take_succ_eq_append_getElem hkl
      generalize xs[k]'hkl = x at *
      have own1 := hrel.out.1.alloc (.cells #[.string (bs x)] 9)
      have hx1 := one_cell (w := wr) (v := .string (bs x)) (t := 9)
      have hlen : (xs.take k).length = k := by rw [List.length_take]; omega
      rw [hlen] at own1
      obtain ⟨ys, hys⟩ : ∃ ys, ys = sv (xs.take k) := ⟨_, rfl⟩
      rw [← hys] at own1
      have Hys := hid hys
      have Hlen := hid hlen
      have hsz := hrel.out.2.size
      clear hc hys hlen hb
      go_wp2_with (at_builtin; refine wpList_append_own _ rfl _ _ 23 rfl w.heap.size 9 i0 (.string ⟨#[]⟩) 1 16 Tryd.underlying23 hi0 hz0 hz1 hz2 rfl (by decide) _ k _ rfl own1 ⟨wr.heap.size, 0, none⟩ 1 1 [.string (bs x)] rfl rfl hx1 ?c2 ?c3 ?c4 ?c5 ?_)
      case c2 => intro u hu; simp at hu; subst hu; rfl
      case c3 => unfold maxLen; omega
      case c4 => omega
      case c5 => simp; omega
      intro v' w4 hown4 hgrow _
      have B4 : Below w.heap.size w w4 := (hrel.out.2.alloc hsz _).grown hgrow (by simp; omega) (fun k hk => (hrel.out.1.lt k hk).1)
      have HO : Hid (OT w4 w.heap.size v' (xs.take (k + 1)) ∧ Below w.heap.size w w4) := by
        refine ⟨?_, B4⟩
        unfold OT
        rw [HS.out, List.length_append, Hlen.out, sv_append, ← Hys.out]
        exact hown4
      clear hown4 hgrow B4 hrel own1 hx1 cc
      go_wp2_with fail
      go_roundw
      case rel => exact ⟨k + 1, by omega, by simp, HO.out⟩
      case measure => simp only [iof]; omega
    · have hki : ¬ (k : Int) < (n : Int) := by omega
      have e : xs.take k = xs := List.take_of_length_le (by have := HN.out; omega)
      have hlen : (xs.take k).length = n := by rw [e, HN.out]
      obtain ⟨a', c', ev, ht, h1, h2⟩ := hrel.out.1.ts
      rw [hlen] at ev h1
      rw [e] at ht
      subst ev
      have HF := hid (And.intro ht (And.intro h1 (And.intro h2 hrel.out.2)))
      clear hrel ht h1 h2 hlen e
      go_wp2_with fail
      go_ret
      exact ⟨a', c', rfl, HF.out⟩
end Go.Proofs.YtcadnhjiodlpcaaDoor
