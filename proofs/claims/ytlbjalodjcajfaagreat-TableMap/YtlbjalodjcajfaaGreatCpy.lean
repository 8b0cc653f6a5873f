/-
  Entries written into a row, side by side. slices.Clone and slices.Delete, over entries.
-/
import Derived.Test.YtlbjalodjcajfaaGreatWrt
import Derived.Deep.AppendSrc
import Derived.Lib.JoinLaws
import Derived.Lib.SliceRun
import Derived.Laws.IdiomCopy
import Derived.Lib.Walk
import Derived.Shelf.RegionOpenPlain
import Derived.Laws.AppendOwn
namespace Go.Proofs.YtlbjalodjcajfaaGreat
open Go.RowKit Go.Maps
def setL : List Value → Nat → List Value → List Value
  | l, _, [] => l
  | l, o, v :: r => setL (l.set o v) (o + 1) r
theorem setL_eq : ∀ (vs l : List Value) (o : Nat), o + vs.length ≤ l.length → setL l o vs = l.take o ++ (vs ++ l.drop (o + vs.length))
  | [], l, o, _ => by simp [setL]
  | v :: r, l, o, h => by
    have hl : o < l.length := by simp at h; omega
    rw [setL, setL_eq r (l.set o v) (o + 1) (by simp at h ⊢; omega)]
    have e1 : (l.set o v).take (o + 1) = l.take o ++ [v] := by
      rw [List.take_set, List.take_add_one, List.getElem?_eq_getElem hl]
      rw [List.set_append_right _ _ (by simp; omega)]
      simp
      rw [show o - min o l.length = 0 by omega, List.set_cons_zero]
    have e2 : (l.set o v).drop (o + 1 + r.length) = l.drop (o + (v :: r).length) := by
      rw [List.drop_set_of_lt (by omega)]
      congr 1
      simp; omega
    rw [e1, e2]
    simp
theorem box_setCells {g : Nat} {t : TypeId} : ∀ (vs : List Value) (o : Nat) (w : World) (cur : Array Value), Box w g cur t → Box (w.setCells g o vs) g (setL cur.toList o vs).toArray t
  | [], o, w, cur, h => by simpa [World.setCells, setL] using h
  | v :: r, o, w, cur, h => by
    rw [World.setCells, setL]
    have := box_setCells r (o + 1) (w.setCell ⟨g, o, none⟩ v) (cur.setIfInBounds o v) (h.store o v)
    rw [Array.toList_setIfInBounds] at this
    exact this
section
variable {E : Type} {X : Enc E} {t : TypeId} {w : World} {g cap : Nat} {l : List E}
theorem flat_drop (X : Enc E) (l : List E) (n : Nat) (h : n ≤ l.length) : (flat X l).drop (n * 3) = flat X (l.drop n) := by
  have e : flat X l = flat X (l.take n) ++ flat X (l.drop n) := by rw [← flat_app, List.take_append_drop]
  rw [e, show n * 3 = (flat X (l.take n)).length by rw [flat_len, List.length_take, Nat.min_eq_left h], List.drop_left]
theorem Lay.write (h : Lay X t w g cap l) (p : Nat) (es : List E) (hp : p ≤ l.length) (hc : p + es.length ≤ cap) : Lay X t (w.setCells g (p * 3) (flat X es)) g cap (l.take p ++ (es ++ l.drop (p + es.length))) := by
  obtain ⟨cur, h1, h2, h3⟩ := h.cur
  have hle := h.le
  have hcl : cur.toList.length = cap * 3 := by simpa using h2
  have hfl := flat_len X es
  have b1 := box_setCells (flat X es) (p * 3) w cur h1
  rw [setL_eq _ _ _ (by rw [hcl, hfl]; omega)] at b1
  have hlen : (l.take p ++ (es ++ l.drop (p + es.length))).length = max l.length (p + es.length) := by simp; omega
  refine ⟨by rw [hlen]; omega, h.mx, _, b1, ?_, ?_⟩
  · simp [hcl, hfl]; omega
  · rw [hlen, List.toList_toArray, flat_app, flat_app]
    have e0 : cur.toList.take (p * 3) = flat X (l.take p) := by
      rw [← flat_take X l p hp, ← h3, List.take_take, Nat.min_eq_left (by omega)]
    rw [e0, hfl]
    have l0 : (flat X (l.take p)).length = p * 3 := by rw [flat_len]; simp; omega
    by_cases hb : l.length ≤ p + es.length
    · rw [Nat.max_eq_right hb, List.drop_eq_nil_of_le hb, flat_nil, List.append_nil, ← List.append_assoc, List.take_left' (by rw [List.length_append, l0, hfl]; omega)]
    · rw [Nat.max_eq_left (by omega), ← List.append_assoc, List.take_append, List.length_append, l0, hfl, List.take_of_length_le (by rw [List.length_append, l0, hfl]; omega), List.append_assoc]
      congr 2
      rw [← flat_drop X l _ (by omega), ← h3, List.drop_take]
      congr 1
      · omega
      · congr 1; omega
theorem flat_at (X : Enc E) {l : List E} {j : Nat} {v : Value} (h : (flat X l)[j]? = some v) : ∃ i e, l[i]? = some e ∧ ((j = i * 3 ∧ v = X.a e) ∨ (j = i * 3 + 1 ∧ v = X.b e) ∨ (j = i * 3 + 2 ∧ v = X.c e)) := by
  have hj := (List.getElem?_eq_some_iff.1 h).1
  rw [flat_len] at hj
  have hi : j / 3 < l.length := by omega
  have hx := List.getElem?_eq_getElem hi
  obtain ⟨a, b, c⟩ := flat_get X hx
  refine ⟨j / 3, _, hx, ?_⟩
  have hm : j % 3 = 0 ∨ j % 3 = 1 ∨ j % 3 = 2 := by omega
  rcases hm with hm | hm | hm
  · have e : j = j / 3 * 3 := by omega
    rw [e] at h; rw [a] at h
    exact .inl ⟨e, by injection h with h; exact h.symm⟩
  · have e : j = j / 3 * 3 + 1 := by omega
    rw [e] at h; rw [b] at h
    exact .inr (.inl ⟨e, by injection h with h; exact h.symm⟩)
  · have e : j = j / 3 * 3 + 2 := by omega
    rw [e] at h; rw [c] at h
    exact .inr (.inr ⟨e, by injection h with h; exact h.symm⟩)
end
theorem rdE_cells {u : World} {a : Option Addr} {l : List En} (h : RdE u a l) (b : Addr) (ha : a = some b) {j : Nat} {v : Value} (hj : (flat eE l)[j]? = some v) : u.cell? (b.add j) = some v := by
  obtain ⟨i, e, hi, hc⟩ := flat_at eE hj
  obtain ⟨b0, o0, h0, hb, c0, c1, c2⟩ := h i e hi
  rw [ha] at h0
  injection h0 with h0
  subst h0
  rw [Addr.add_lit]
  rcases hc with ⟨rfl, rfl⟩ | ⟨rfl, rfl⟩ | ⟨rfl, rfl⟩
  · exact c0
  · rw [← Nat.add_assoc]; exact c1
  · rw [← Nat.add_assoc]; exact c2
end Go.Proofs.YtlbjalodjcajfaaGreat
namespace Go.Proofs.YtlbjalodjcajfaaGreat
open Go.RowKit Go.Maps Go.Lib
theorem infoEx : ∃ i0, Tryz.prog.info? 28 = some i0 ∧ i0.zero = some (.agg #[.bool false, .string ⟨#[]⟩, .string ⟨#[]⟩]) ∧ i0.size = 3 ∧ i0.bytes = 40 := by
  obtain ⟨i0, hi, h0, h1, h2⟩ := info_parts infoE
  exact ⟨i0, hi, h0, h1, h2⟩
set_option maxRecDepth 100000 in
set_option maxHeartbeats 2000000 in
theorem clone_at {w : World} {a : Option Addr} {l : List En} {n c : Nat} (h : RdE w a l) (hl : l.length = n) (h1 : 1 ≤ n) (h2 : n ≤ 1024) :
    Calls Tryz.prog 22 #[.slice a n c] w fun r w' => ∃ g cap, r = .returned (.slice (some ⟨g, 0, none⟩) n cap) ∧ w.heap.size ≤ g ∧ Lay eE 28 w' g cap l ∧ Below w.heap.size w w' := by
  obtain ⟨i0, hi, hz0, hz1, hz2⟩ := infoEx
  obtain ⟨b, o, rfl, _⟩ : ∃ b o, a = some ⟨b, o, none⟩ ∧ True := by
    obtain ⟨b, o, e, _⟩ := h 0 _ (List.getElem?_eq_getElem (by omega))
    exact ⟨b, o, e, trivial⟩
  have q35 : ∀ (w : World) (a : Option Addr) (n c n' c' : Nat), (binOp .eql 42 (.slice a n c) (.slice none n' c')).run Tryz.prog w = .ok (.bool a.isNone) w := fun w a n c n' c' => Lib.run_eql_slice_nil w _ _ a n c n' c' Tryz.underlying42
  have HR := hid h
  have HL := hid hl
  clear h hl
  go_enter Tryz.func22, Tryz.ntmps22
  go_wp2_with (at_builtin; refine wpList_append_own _ rfl _ _ 42 rfl w.heap.size 28 i0 (.agg #[.bool false, .string ⟨#[]⟩, .string ⟨#[]⟩]) 3 40 Tryz.underlying42 hi hz0 hz1 hz2 rfl (by decide) _ _ _ rfl (World.ownsRow_made w #[] 0 (Nat.le_refl _) (Nat.zero_le _) (by simp)) ⟨b, o, none⟩ n c (flat eE l) rfl ?qc1 ?qc2 ?qc3 ?qc4 ?qc5 ?qc6 ?_)
  case qc1 => rw [flat_len, HL.out]
  case qc2 => exact fun j u hj => Lib.cell?_alloc_some _ (rdE_cells HR.out ⟨b, o, none⟩ rfl hj)
  case qc3 => exact flat_one eE l
  case qc4 => rw [Nat.zero_add]; unfold maxLen; omega
  case qc5 => rw [Nat.zero_add]; omega
  case qc6 => simp
  intro v' w1 hown hgrow hnil
  have hrow : IsRow eE 28 w1 w.heap.size v' l := by
    unfold IsRow
    rw [HL.out]
    simpa using hown
  have hb : Below w.heap.size w w1 := ((Below.refl _ w).alloc (Nat.le_refl _) _).grown hgrow (by simp) (by intro k hk; simp [Value.ownBlock] at hk; omega)
  rcases hrow.lay with ⟨_, hz⟩ | ⟨g, cap, rfl, hg, hlay⟩
  · have := HL.out; rw [hz] at this; simp at this; omega
  rw [HL.out] at *
  clear hown hgrow hnil hrow
  have H := hid (And.intro hg (And.intro hlay hb))
  clear hg hlay hb
  go_wp2
  go_ret
  exact ⟨g, cap, rfl, H.out⟩
end Go.Proofs.YtlbjalodjcajfaaGreat
