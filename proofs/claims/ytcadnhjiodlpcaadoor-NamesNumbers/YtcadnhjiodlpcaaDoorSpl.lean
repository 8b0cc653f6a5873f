/-
  A path cut at its slashes, and its names.
-/
import Derived.Test.YtcadnhjiodlpcaaDoorNam
import Derived.Test.YtcadnhjiodlpcaaDoorShf
namespace Go.Proofs.YtcadnhjiodlpcaaDoor
open Go.RowKit
/-! ### the library's cuts are the plain ones -/
theorem index_app : ∀ (p r : Tx), 47 ∉ p → Lib.index (p ++ 47 :: r) [47] = (p.length : Int)
  | [], r, _ => by simp [Lib.index, List.isPrefixOf]
  | c :: p, r, h => by
    have hc : c ≠ 47 := fun e => h (by rw [e]; exact List.mem_cons_self)
    have ih := index_app p r (fun e => h (List.mem_cons_of_mem _ e))
    have hp : ([47] : Tx).isPrefixOf (c :: (p ++ 47 :: r)) = false := by simp [List.isPrefixOf, Ne.symm hc]
    rw [List.cons_append, Lib.index, hp, ih]
    have : ¬ ((p.length : Int) == -1) = true := by simp
    simp [this]
theorem index_free : ∀ (p : Tx), 47 ∉ p → Lib.index p [47] = -1
  | [], _ => by simp [Lib.index]
  | c :: p, h => by
    have hc : c ≠ 47 := fun e => h (by rw [e]; exact List.mem_cons_self)
    have ih := index_free p (fun e => h (List.mem_cons_of_mem _ e))
    have hp : ([47] : Tx).isPrefixOf (c :: p) = false := by simp [List.isPrefixOf, Ne.symm hc]
    rw [Lib.index, hp, ih]
    simp
theorem free_or (s : Tx) : 47 ∉ s ∨ ∃ p r, s = p ++ 47 :: r ∧ 47 ∉ p := by
  induction s with
  | nil => exact .inl (by simp)
  | cons c s ih =>
    by_cases hc : c = 47
    · exact .inr ⟨[], s, by rw [hc]; rfl, by simp⟩
    · rcases ih with ih | ⟨p, r, rfl, hp⟩
      · exact .inl (fun e => by rcases List.mem_cons.1 e with h | h; exact hc h.symm; exact ih h)
      · exact .inr ⟨c :: p, r, rfl, fun e => by rcases List.mem_cons.1 e with h | h; exact hc h.symm; exact hp h⟩
theorem splitK_spl : ∀ (n : Nat) (s : Tx), s.length ≤ n → Lib.splitK [47] 0 (s.count 47) s = spl s := by
  intro n
  induction n with
  | zero =>
    intro s hs
    obtain rfl : s = [] := List.eq_nil_of_length_eq_zero (by omega)
    rfl
  | succ n ih =>
    intro s hs
    rcases free_or s with h | ⟨p, r, rfl, hp⟩
    · rw [List.count_eq_zero.2 h, spl_free s h]
      rfl
    · have hc : (p ++ 47 :: r).count 47 = r.count 47 + 1 := by
        rw [List.count_append, List.count_eq_zero.2 hp, List.count_cons_self]
        omega
      have hne : ¬ (((p.length : Nat) : Int) == -1) = true := by simp
      rw [hc, Lib.splitK, index_app p r hp, if_neg hne, spl_app p r hp, Int.toNat_natCast]
      have e1 : (p ++ 47 :: r).take (p.length + 0) = p := by simp
      have e2 : (p ++ 47 :: r).drop (p.length + [(47 : UInt8)].length) = r := by
        rw [← List.drop_drop]
        simp
      rw [e1, e2, ih r (by simp at hs; omega)]
theorem splitB_spl (y : Tx) : (Lib.splitB ⟨#[47]⟩ 0 (Lib.countB (bs y) ⟨#[47]⟩) (bs y)) = (spl y).map bs := by
  have h := Lib.splitB_data ⟨#[47]⟩ 0 (Lib.countB (bs y) ⟨#[47]⟩) (bs y)
  have hc : Lib.countB (bs y) ⟨#[47]⟩ = y.count 47 := Lib.count_one 47 y
  have h2 : (Lib.splitB ⟨#[47]⟩ 0 (Lib.countB (bs y) ⟨#[47]⟩) (bs y)).map (·.data.toList) = spl y := by
    rw [h, hc]
    exact splitK_spl _ y (Nat.le_refl _)
  rw [← h2, List.map_map]
  have : (bs ∘ fun x : ByteArray => x.data.toList) = id := funext fun x => bs_data x
  rw [this, List.map_id]
theorem count_spl (y : Tx) : Lib.countB (bs y) ⟨#[47]⟩ + 1 = (spl y).length := by
  have := Lib.splitB_all ⟨#[47]⟩ (by decide) 0 _ (bs y) rfl
  rw [← this, splitB_spl, List.length_map]
/-! ### cutting -/
def cutP (s : Tx) : List Tx × Nat :=
  if s = [47] then ([], 0) else if 400 < s.length ∨ s.head? ≠ some 47 then ([], 211)
  else if 16 < (spl s.tail).length ∨ [] ∈ spl s.tail then ([], 211) else (spl s.tail, 0)
/-- A list that was told, and an error. -/
def RS (w : World) (l : List Tx) (e : Nat) (r : Ending) (w' : World) : Prop :=
  ∃ a c, r = .returned (.tuple #[.slice a l.length c, .int .i64 (e : Int)]) ∧ Ts w' a l ∧ l.length ≤ c ∧ c ≤ 1000 ∧ Below w.heap.size w w'
def MaxL (w : World) : Prop := ∃ m, w.cell? ⟨0, 0, none⟩ = some (.int .i64 m)
theorem MaxL.below {w w' : World} (h : MaxL w) (hb : Below w.heap.size w w') : MaxL w' := by
  obtain ⟨m, hm⟩ := h
  exact ⟨m, (hb.cell (p := ⟨0, 0, none⟩) (World.block_lt_of_cell? _ _ hm)).trans hm⟩
theorem clone_at (s : ByteArray) (w : World) (h : s.size ≤ 281474976710656) : Calls Tryd.prog 28 #[.string s] w fun e w' => e = .returned (.string s) ∧ Below w.heap.size w w' := by
  have c := Tryd.stringslite_Clone s w h
  go_enter Tryd.func28, Tryd.ntmps28
  go_wp2_with (go_at_call 35; refine c.mono ?_; rintro e w' ⟨rfl, hb⟩)
  go_ret
  exact ⟨rfl, hb⟩
theorem spl_at {u : World} (y : Tx) (hl : y.length ≤ 1000) (hm : MaxL u) :
    Calls Tryd.prog 27 #[.string (bs y), .string ⟨#[47]⟩] u fun e u' => ∃ b, e = .returned (.slice (some ⟨b, 0, none⟩) (spl y).length (spl y).length) ∧ Ts u' (some ⟨b, 0, none⟩) (spl y) ∧ Below u.heap.size u u' := by
  obtain ⟨m, hm⟩ := hm
  refine (Tryd.strings_Split (bs y) ⟨#[47]⟩ m u (by rw [bs_size]; omega) hm (by decide)).mono ?_
  rintro e u' ⟨rfl, rfl⟩
  rw [count_spl, splitB_spl]
  refine ⟨_, rfl, fun _ => ⟨_, _, rfl, by simp, fun j hj => ?_⟩, (Below.refl _ _).alloc (Nat.le_refl _) _⟩
  rw [Nat.zero_add]
  rw [cell_of_row _ _ j _ 9 (0, 0) (heap_alloc_new u _)]
  simp [hj]
theorem spl_len (y : Tx) : (spl y).length ≤ y.length + 1 := by
  have := count_spl y
  have h := Lib.countB_le ⟨#[47]⟩ (by decide) _ (bs y) (Nat.le_refl _)
  rw [bs_size] at h
  omega
theorem has_at {u : World} {a : Option Addr} {xs : List Tx} {c : Nat} (hl : xs.length ≤ 9223372036854775807) (h : Ts u a xs) :
    Calls Tryd.prog 29 #[.slice a xs.length c, .string (bs [])] u fun e u' => e = .returned (.bool (decide ([] ∈ xs))) ∧ u' = u := by
  by_cases h0 : xs = []
  · subst h0
    exact (Tryd.slices_Contains_string_empty a c _ u).mono (fun e u' h => ⟨by rw [h.1]; rfl, h.2⟩)
  · obtain ⟨b, o, rfl, hb, hc⟩ := h (List.length_pos_iff.2 h0)
    refine (Tryd.slices_Contains_string b o xs.length c (xs.map bs) (bs []) u (by simp) (by omega) (fun j hj => ?_)).mono (fun e u' h => ⟨?_, h.2⟩)
    · rw [List.length_map] at hj
      rw [hc j hj]
      simp [hj]
    · rw [h.1]
      have e1 : (xs.map bs).take xs.length = xs.map bs := List.take_of_length_le (by simp)
      rw [e1]
      have : Lib.containsS (xs.map bs) (bs []) = decide ([] ∈ xs) := by
        rw [Bool.eq_iff_iff, Lib.containsS_iff]
        simp only [List.mem_map, decide_eq_true_eq]
        constructor
        · rintro ⟨x, hx, e⟩
          rw [← bs_inj e]; exact hx
        · intro hx
          exact ⟨[], hx, rfl⟩
      rw [this]
set_option maxRecDepth 100000 in
theorem cut_at (x : Tx) (w : World) (hm : MaxL w) :
    Calls Tryd.prog 21 #[.string (bs x)] w (RS w (cutP x).1 (cutP x).2) := by
  have hx := bs_toList x
  have hsz := bs_size x
  by_cases h1 : x = [47]
  · subst h1
    go_enter Tryd.func21, Tryd.ntmps21
    go_wp2_with fail
    go_ret2
    exact ⟨none, 0, rfl, Ts.nil _ _, Nat.le_refl _, by omega, Below.refl _ _⟩
  have hq : (x == [47]) = false := by simpa using h1
  by_cases h2 : 400 < x.length
  · have hl : (400 : Int) < (x.length : Int) := by omega
    have e : cutP x = ([], 211) := by unfold cutP; rw [if_neg h1, if_pos (.inl h2)]
    rw [e]
    go_enter Tryd.func21, Tryd.ntmps21
    go_wp2_with fail
    go_ret2
    exact ⟨none, 0, rfl, Ts.nil _ _, Nat.le_refl _, by omega, Below.refl _ _⟩
  have hl : ¬ (400 : Int) < (x.length : Int) := by omega
  have c1 := fun u => Tryd.strings_HasPrefix (bs x) ⟨#[47]⟩ u
  by_cases h3 : x.head? = some 47
  · obtain ⟨y, rfl⟩ : ∃ y, x = 47 :: y := by
      cases x with
      | nil => simp at h3
      | cons c y => exact ⟨y, by simp at h3; rw [h3]⟩
    have hp : Lib.hasPrefix (bs (47 :: y)).data.toList (⟨#[47]⟩ : ByteArray).data.toList = true := by simp [Lib.hasPrefix, bs, List.isPrefixOf]
    rw [hp] at c1
    have hl' : ¬ (400 : Int) < (y.length : Int) + 1 := by simp at h2; omega
    have hex : (bs (47 :: y)).extract 1 (y.length + 1) = bs y := by
      have := ByteArray.extract_mk (47 :: y) 1 (y.length + 1)
      have e2 : List.take (y.length + 1 - 1) (List.drop 1 ((47 : UInt8) :: y)) = y := by simp
      rw [e2] at this
      exact this
    have hy : y.length ≤ 400 := by simp at h2; omega
    have hlen := spl_len y
    have HE : Hid (cutP (47 :: y) = if 16 < (spl y).length ∨ [] ∈ spl y then ([], 211) else (spl y, 0)) := by
      refine hid ?_
      unfold cutP
      rw [if_neg h1, if_neg (by simp; simpa using h2), List.tail_cons]
    have c2 := fun u => clone_at (bs y) u (by rw [bs_size]; omega)
    have c3 := fun u => spl_at (u := u) y (by omega)
    have c4 := fun u a c => has_at (u := u) (a := a) (xs := spl y) (c := c) (by omega)
    have HM := hid hm
    have hyn : ¬ y = [] := fun e => h1 (by rw [e])
    clear hp h3 hl hm h1 h2
    generalize spl y = ps at *
    by_cases h16 : 16 < ps.length
    · rw [HE.out, if_pos (.inl h16)]
      have hk : (16 : Int) < (ps.length : Int) := by omega
      clear HE h16
      go_enter Tryd.func21, Tryd.ntmps21
      go_wp2_with (first | (go_at_call 26; refine (c1 _).mono ?_; rintro e w' ⟨rfl, rfl⟩) | fail)
      refine (c2 _).mono ?_
      rintro e w1 ⟨rfl, hb1⟩
      have c3 := c3 w1 (HM.out.below hb1)
      go_wp2_with fail
      refine c3.mono ?_
      rintro e w2 ⟨b, rfl, ht, hb2⟩
      have HB := hid (hb1.trans (hb2.mono hb1.size))
      clear c3 ht hb1 hb2
      go_wp2_with fail
      go_ret2
      exact ⟨none, 0, rfl, Ts.nil _ _, Nat.le_refl _, by omega, HB.out⟩
    have hk : ¬ (16 : Int) < (ps.length : Int) := by omega
    by_cases h0 : [] ∈ ps
    · rw [HE.out, if_pos (.inr h0)]
      simp only [h0, decide_true] at c4
      clear HE h16 h0
      go_enter Tryd.func21, Tryd.ntmps21
      go_wp2_with (first | (go_at_call 26; refine (c1 _).mono ?_; rintro e w' ⟨rfl, rfl⟩) | fail)
      refine (c2 _).mono ?_
      rintro e w1 ⟨rfl, hb1⟩
      have c3 := c3 w1 (HM.out.below hb1)
      go_wp2_with fail
      refine c3.mono ?_
      rintro e w2 ⟨b, rfl, ht, hb2⟩
      have HB := hid (hb1.trans (hb2.mono hb1.size))
      have c5 := fun c => c4 w2 (some ⟨b, 0, none⟩) c ht
      clear c3 c4 ht hb1 hb2
      go_wp2_with (go_at_call 29; refine (c5 _).mono ?_; rintro e w' ⟨rfl, rfl⟩)
      go_ret2
      exact ⟨none, 0, rfl, Ts.nil _ _, Nat.le_refl _, by omega, HB.out⟩
    · rw [HE.out, if_neg (by rintro (h | h); exact h16 h; exact h0 h)]
      simp only [h0, decide_false] at c4
      clear HE h16 h0
      go_enter Tryd.func21, Tryd.ntmps21
      go_wp2_with (first | (go_at_call 26; refine (c1 _).mono ?_; rintro e w' ⟨rfl, rfl⟩) | fail)
      refine (c2 _).mono ?_
      rintro e w1 ⟨rfl, hb1⟩
      have c3 := c3 w1 (HM.out.below hb1)
      go_wp2_with fail
      refine c3.mono ?_
      rintro e w2 ⟨b, rfl, ht, hb2⟩
      have HB := hid (And.intro ht (hb1.trans (hb2.mono hb1.size)))
      have c5 := fun c => c4 w2 (some ⟨b, 0, none⟩) c ht
      clear c3 c4 ht hb1 hb2
      go_wp2_with (go_at_call 29; refine (c5 _).mono ?_; rintro e w' ⟨rfl, rfl⟩)
      go_ret2
      exact ⟨_, _, rfl, HB.out.1, Nat.le_refl _, by omega, HB.out.2⟩
  · have hp : Lib.hasPrefix (bs x).data.toList (⟨#[47]⟩ : ByteArray).data.toList = false := by
      cases x with
      | nil => rfl
      | cons c y =>
        have : (47 == c) = false := by
          simp at h3
          simpa using fun e => h3 e.symm
        simp [Lib.hasPrefix, bs, List.isPrefixOf, this]
    rw [hp] at c1
    have e : cutP x = ([], 211) := by unfold cutP; rw [if_neg h1, if_pos (.inr h3)]
    rw [e]
    clear hp e
    go_enter Tryd.func21, Tryd.ntmps21
    go_wp2_with (go_at_call 26; refine (c1 _).mono ?_; rintro e w' ⟨rfl, rfl⟩)
    go_ret2
    exact ⟨none, 0, rfl, Ts.nil _ _, Nat.le_refl _, by omega, Below.refl _ _⟩
theorem splitP_cut (x : Tx) : splitP x = if (cutP x).2 = 0 then (if (cutP x).1.all isName then ((cutP x).1, 0) else ([], 210)) else ([], (cutP x).2) := by
  unfold splitP cutP
  by_cases h1 : x = [47]
  · simp [h1]
  rw [if_neg h1, if_neg h1]
  by_cases h2 : 400 < x.length ∨ x.head? ≠ some 47
  · rw [if_pos h2, if_pos h2]; simp
  rw [if_neg h2, if_neg h2]
  by_cases h3 : 16 < (spl x.tail).length ∨ [] ∈ spl x.tail
  · rw [if_pos h3, if_pos h3]; simp
  rw [if_neg h3, if_neg h3]
  simp
theorem cutP_err (x : Tx) : ((cutP x).2 = 0 ∧ (cutP x).1.length ≤ 16) ∨ ((cutP x).1 = [] ∧ (cutP x).2 = 211) := by
  unfold cutP
  by_cases h1 : x = [47]
  · simp [h1]
  rw [if_neg h1]
  by_cases h2 : 400 < x.length ∨ x.head? ≠ some 47
  · rw [if_pos h2]; simp
  rw [if_neg h2]
  by_cases h3 : 16 < (spl x.tail).length ∨ [] ∈ spl x.tail
  · rw [if_pos h3]; simp
  rw [if_neg h3]
  simp; omega
set_option maxRecDepth 100000 in
theorem split_at (x : Tx) (w : World) (hm : MaxL w) : Calls Tryd.prog 8 #[.string (bs x)] w (RS w (splitP x).1 (splitP x).2) := by
  have c := cut_at x w hm
  have HE := hid (splitP_cut x)
  have he := cutP_err x
  generalize splitP x = q at *
  generalize cutP x = k at *
  obtain ⟨l, n⟩ := k
  clear hm
  rcases he with ⟨h, hl⟩ | ⟨h, h'⟩
  · obtain rfl : n = 0 := h
    replace hl : l.length ≤ 16 := hl
    have c2 := fun u a c => are_at (w := u) (a := a) (xs := l) (cap := c) (by omega)
    cases hn : l.all isName
    · have e : q = ([], 210) := by have := HE.out; simpa [hn] using this
      rw [e]
      rw [hn] at c2
      clear HE e
      go_enter Tryd.func8, Tryd.ntmps8
      go_wp2_with fail
      refine c.mono ?_
      rintro e w1 ⟨a, d, rfl, ht, _, _, hb⟩
      have c3 := c2 w1 a d ht
      have HB := hid hb
      clear c2 ht hb
      go_wp2_with fail
      refine c3.mono ?_
      rintro e w2 ⟨rfl, hb2⟩
      have HB2 := hid (HB.out.trans (hb2.mono HB.out.size))
      clear HB hb2 c3
      go_wp2_with fail
      go_ret2
      exact ⟨none, 0, rfl, Ts.nil _ _, Nat.le_refl _, by omega, HB2.out⟩
    · have e : q = (l, 0) := by have := HE.out; simpa [hn] using this
      rw [e]
      rw [hn] at c2
      clear HE e
      go_enter Tryd.func8, Tryd.ntmps8
      go_wp2_with fail
      refine c.mono ?_
      rintro e w1 ⟨a, d, rfl, ht, h1, h2, hb⟩
      have c3 := c2 w1 a d ht
      have HB := hid (And.intro ht (And.intro h1 (And.intro h2 hb)))
      clear c2 ht hb h1 h2
      go_wp2_with fail
      refine c3.mono ?_
      rintro e w2 ⟨rfl, hb2⟩
      have HB2 := hid hb2
      clear hb2 c3
      go_wp2_with fail
      go_ret2
      obtain ⟨t1, t2, t3, t4⟩ := HB.out
      exact ⟨a, d, rfl, t1.below HB2.out (Nat.le_refl _), t2, t3, t4.trans (HB2.out.mono t4.size)⟩
  · obtain rfl : n = 211 := h'
    obtain rfl : l = [] := h
    have e : q = ([], 211) := by have := HE.out; simpa using this
    rw [e]
    clear HE e
    go_enter Tryd.func8, Tryd.ntmps8
    go_wp2_with fail
    refine c.mono ?_
    rintro e w1 ⟨a, d, rfl, ht, _, _, hb⟩
    have HB := hid hb
    clear ht hb
    go_wp2_with fail
    go_ret2
    exact ⟨none, 0, rfl, Ts.nil _ _, Nat.le_refl _, by omega, HB.out⟩
end Go.Proofs.YtcadnhjiodlpcaaDoor
