/-
  slices.Clone and slices.Delete, over entries.
-/
import Derived.Test.YtlbjalodjcajfaaCpy
import Derived.Lib.Walk
import Derived.Shelf.RegionOpenPlain
import Derived.Laws.AppendOwn
namespace Go.Proofs.Ytlbjalodjcajfaa
open Go.RowKit Go.Maps Go.Lib
theorem infoEx : ∃ i0, Try.prog.info? 27 = some i0 ∧ i0.zero = some (.agg #[.bool false, .string ⟨#[]⟩, .string ⟨#[]⟩]) ∧ i0.size = 3 ∧ i0.bytes = 40 := by
  obtain ⟨i0, hi, h0, h1, h2⟩ := info_parts infoE
  exact ⟨i0, hi, h0, h1, h2⟩
set_option maxRecDepth 100000 in
set_option maxHeartbeats 2000000 in
theorem clone_at {w : World} {a : Option Addr} {l : List En} {n c : Nat} (h : RdE w a l) (hl : l.length = n) (h1 : 1 ≤ n) (h2 : n ≤ 1024) :
    Calls Try.prog 32 #[.slice a n c] w fun r w' => ∃ g cap, r = .returned (.slice (some ⟨g, 0, none⟩) n cap) ∧ w.heap.size ≤ g ∧ Lay eE 27 w' g cap l ∧ Below w.heap.size w w' := by
  obtain ⟨i0, hi, hz0, hz1, hz2⟩ := infoEx
  obtain ⟨b, o, rfl, _⟩ : ∃ b o, a = some ⟨b, o, none⟩ ∧ True := by
    obtain ⟨b, o, e, _⟩ := h 0 _ (List.getElem?_eq_getElem (by omega))
    exact ⟨b, o, e, trivial⟩
  have q35 : ∀ (w : World) (a : Option Addr) (n c n' c' : Nat), (binOp .eql 35 (.slice a n c) (.slice none n' c')).run Try.prog w = .ok (.bool a.isNone) w := fun w a n c n' c' => Lib.run_eql_slice_nil w _ _ a n c n' c' Try.underlying35
  have HR := hid h
  have HL := hid hl
  clear h hl
  go_enter Try.func32, Try.ntmps32
  go_wp2_with (at_builtin; refine wpList_append_own _ rfl _ _ 35 rfl w.heap.size 27 i0 (.agg #[.bool false, .string ⟨#[]⟩, .string ⟨#[]⟩]) 3 40 Try.underlying35 hi hz0 hz1 hz2 rfl (by decide) _ _ _ rfl (World.ownsRow_made w #[] 0 (Nat.le_refl _) (Nat.zero_le _) (by simp)) ⟨b, o, none⟩ n c (flat eE l) rfl ?qc1 ?qc2 ?qc3 ?qc4 ?qc5 ?qc6 ?_)
  case qc1 => rw [flat_len, HL.out]
  case qc2 => exact fun j u hj => Lib.cell?_alloc_some _ (rdE_cells HR.out ⟨b, o, none⟩ rfl hj)
  case qc3 => exact flat_one eE l
  case qc4 => rw [Nat.zero_add]; unfold maxLen; omega
  case qc5 => rw [Nat.zero_add]; omega
  case qc6 => simp
  intro v' w1 hown hgrow hnil
  have hrow : IsRow eE 27 w1 w.heap.size v' l := by
    unfold IsRow
    rw [HL.out]
    simpa using hown
  have hb : Below w.heap.size w w1 := ((Below.refl _ w).alloc (Nat.le_refl _) _).grown hgrow (by simp) (by intro k hk; simp [Value.ownBlock] at hk; omega)
  rcases hrow.lay with ⟨_, hz⟩ | ⟨g, cap, rfl, hg, hlay⟩
  · have := HL.out; rw [hz] at this; simp at this; omega
  rw [HL.out] at *
  clear hown hgrow hnil hrow
  have H := hid (And.intro hg (And.intro hlay hb))
  clear hg hlay hb
  go_wp2
  go_ret
  exact ⟨g, cap, rfl, H.out⟩
end Go.Proofs.Ytlbjalodjcajfaa
