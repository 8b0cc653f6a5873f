/-
  The document's own Split.
-/
import Derived.Test.YtcadnhjiodlpcaaDoorCpy
namespace Go.Proofs.YtcadnhjiodlpcaaDoor
open Go.RowKit
/-! ### plainly -/
def rst (x : Tx) (f : Nat) : List Tx := if f ≤ x.length then spl (x.drop f) else []
def pc (x : Tx) (f i : Nat) : Tx := (x.drop f).take (i - f)
/-- What the loop over the bytes has done. -/
def Sp (x : Tx) (d : List Tx) (f i : Nat) : Prop :=
  1 ≤ f ∧ f ≤ i ∧ i ≤ x.length + 1 ∧ (i = x.length + 1 → f = i) ∧ 47 ∉ pc x f i ∧ spl (x.drop 1) = d ++ rst x f ∧ [] ∉ d
theorem Sp.start (x : Tx) (h : 1 ≤ x.length) : Sp x [] 1 1 := by
  refine ⟨by omega, by omega, by omega, by omega, ?_, ?_, by simp⟩
  · simp [pc]
  · unfold rst; rw [if_pos h]; rfl
theorem pc_succ (x : Tx) (f i : Nat) (hf : f ≤ i) (hi : i < x.length) : pc x f (i + 1) = pc x f i ++ [x[i]] := by
  unfold pc
  have e : i + 1 - f = (i - f) + 1 := by omega
  rw [e, List.take_succ_eq_append_getElem (by rw [List.length_drop]; omega)]
  congr 2
  rw [List.getElem_drop]
  congr 1
  omega
theorem Sp.skip {x : Tx} {d : List Tx} {f i : Nat} (h : Sp x d f i) (hi : i < x.length) (hc : x[i] ≠ 47) : Sp x d f (i + 1) := by
  obtain ⟨h1, h2, h3, h4, h5, h6, h7⟩ := h
  refine ⟨h1, by omega, by omega, by omega, ?_, h6, h7⟩
  rw [pc_succ x f i h2 hi]
  intro e
  rcases List.mem_append.1 e with e | e
  · exact h5 e
  · exact hc (List.mem_singleton.1 e).symm
theorem rst_pc {x : Tx} {f i : Nat} (hf : f ≤ i) (hi : i ≤ x.length) (hc : ∀ h : i < x.length, x[i] = 47) (hp : 47 ∉ pc x f i) : rst x f = pc x f i :: rst x (i + 1) := by
  have e1 : rst x f = spl (x.drop f) := by unfold rst; rw [if_pos (by omega)]
  rw [e1]
  by_cases hlt : i < x.length
  · have e2 : rst x (i + 1) = spl (x.drop (i + 1)) := by unfold rst; rw [if_pos (by omega)]
    rw [e2]
    have e3 : x.drop f = pc x f i ++ 47 :: x.drop (i + 1) := by
      unfold pc
      conv => lhs; rw [← List.take_append_drop (i - f) (x.drop f)]
      rw [List.drop_drop]
      congr 1
      have e : f + (i - f) = i := by omega
      rw [e, List.drop_eq_getElem_cons hlt, hc hlt]
    rw [e3]
    exact spl_app _ _ hp
  · have e2 : rst x (i + 1) = [] := by unfold rst; rw [if_neg (by omega)]
    rw [e2]
    have e3 : pc x f i = x.drop f := by
      unfold pc
      exact List.take_of_length_le (by rw [List.length_drop]; omega)
    rw [e3] at hp ⊢
    exact spl_free _ hp
theorem Sp.piece {x : Tx} {d : List Tx} {f i : Nat} (h : Sp x d f i) (hi : i ≤ x.length) (hc : ∀ h : i < x.length, x[i] = 47) (hn : i ≠ f) : Sp x (d ++ [pc x f i]) (i + 1) (i + 1) := by
  obtain ⟨h1, h2, h3, h4, h5, h6, h7⟩ := h
  refine ⟨by omega, by omega, by omega, by omega, ?_, ?_, ?_⟩
  · simp [pc]
  · rw [h6, rst_pc h2 hi hc h5, List.append_assoc]; rfl
  · intro e
    rcases List.mem_append.1 e with e | e
    · exact h7 e
    · have := congrArg List.length (List.mem_singleton.1 e)
      unfold pc at this
      rw [List.length_take, List.length_drop, List.length_nil] at this
      omega
theorem Sp.bad {x : Tx} {d : List Tx} {f i : Nat} (h : Sp x d f i) (hi : i ≤ x.length) (hc : ∀ h : i < x.length, x[i] = 47) (hn : i = f) : [] ∈ spl (x.drop 1) := by
  obtain ⟨h1, h2, h3, h4, h5, h6, h7⟩ := h
  rw [h6, rst_pc h2 hi hc h5]
  refine List.mem_append_right _ ?_
  have : pc x f i = [] := by unfold pc; simp [hn]
  rw [this]
  exact List.mem_cons_self
theorem Sp.over {x : Tx} {d : List Tx} {f i : Nat} (h : Sp x d f i) (hi : ¬ i ≤ x.length) : d = spl (x.drop 1) ∧ [] ∉ spl (x.drop 1) := by
  obtain ⟨h1, h2, h3, h4, h5, h6, h7⟩ := h
  have hf := h4 (by omega)
  have : rst x f = [] := by unfold rst; rw [if_neg (by omega)]
  rw [this, List.append_nil] at h6
  rw [h6]
  exact ⟨rfl, h7⟩
theorem Sp.len {x : Tx} {d : List Tx} {f i : Nat} (h : Sp x d f i) : d.length ≤ x.length + 1 := by
  have := spl_len (x.drop 1)
  rw [h.2.2.2.2.2.1, List.length_append, List.length_drop] at this
  omega
theorem extract_pc (x : Tx) (f i : Nat) : (bs x).extract f i = bs (pc x f i) := ByteArray.extract_mk x f i
theorem mem_jn_len {ps : List Tx} {p : Tx} (h : p ∈ ps) : p.length ≤ (jn ps).length := by
  induction ps with
  | nil => cases h
  | cons q ps ih =>
    rw [jn_cons, List.length_cons, List.length_append]
    rcases List.mem_cons.1 h with e | e
    · rw [e]; omega
    · have := ih e; omega
theorem splitP_of (y : Tx) (h0 : y ≠ []) (hl : y.length + 1 ≤ 400) : splitP (47 :: y) = if 16 < (spl y).length ∨ [] ∈ spl y then ([], 211) else if (spl y).all isName then (spl y, 0) else ([], 210) := by
  unfold splitP
  rw [if_neg (by intro e; exact h0 (List.cons.inj e).2), if_neg (by simp; omega), List.tail_cons]
/-- A list that was told, and an error (any room). -/
def RT (w : World) (l : List Tx) (e : Nat) (r : Ending) (w' : World) : Prop :=
  ∃ a c, r = .returned (.tuple #[.slice a l.length c, .int .i64 (e : Int)]) ∧ Ts w' a l ∧ l.length ≤ c ∧ Below w.heap.size w w'
theorem RT.nil (w : World) (e : Nat) : RT w [] e (.returned (.tuple #[.slice none 0 0, .int .i64 (e : Int)])) w := ⟨none, 0, rfl, Ts.nil _ _, Nat.le_refl _, Below.refl _ _⟩
set_option maxRecDepth 100000 in
set_option maxHeartbeats 4000000 in
theorem rsplit_main (x : Tx) (w : World) (h1 : 2 ≤ x.length) (h4 : x.length ≤ 400) (h47 : x[0] = 47) (he : splitP x = if 16 < (spl (x.drop 1)).length ∨ [] ∈ spl (x.drop 1) then ([], 211) else if (spl (x.drop 1)).all isName then (spl (x.drop 1), 0) else ([], 210)) :
    Calls Tryd.prog 13 #[.string (bs x)] w (RT w (splitP x).1 (splitP x).2) := by
  obtain ⟨i0, hi0, hz0, hz1, hz2⟩ := info_parts infoS
  have hx := bs_toList x
  have hsz := bs_size x
  have h0 : ¬ x = [] := fun e => by rw [e] at h1; simp at h1
  have hone : ((x.length : Int) == 1) = false := beq_eq_false_iff_ne.2 (by omega)
  have hzero : ((x.length : Int) == 0) = false := beq_eq_false_iff_ne.2 (by omega)
  have h4' : ¬ (400 : Int) < (x.length : Int) := by omega
  have hs0 : 0 < (bs x).size := by omega
  have hs0' : (0 : Int) < ((bs x).size : Int) := by omega
  have hb : ((((bs x)[0]'hs0).toNat : Int) != 47) = false := by
    have : (bs x)[0]'hs0 = 47 := h47
    rw [this]; rfl
  have HE := hid he
  generalize splitP x = q at *
  clear he h47
  go_enter Tryd.func13, Tryd.ntmps13
  go_wp2_with fail
  go_loopw [4, 5, 6] (fun v vf vi u => ∃ (d : List Tx) (f i : Nat), vf = .int .i64 (f : Int) ∧ vi = .int .i64 (i : Int) ∧ Hid (Sp x d f i ∧ OT u w.heap.size v d ∧ Below w.heap.size w u)) (fun _ _ vi _ => x.length + 1 - (iof vi).toNat)
  case atStart => exact ⟨[], 1, 1, by simp, by simp, Sp.start x (by omega), OT.nil _ _, Below.refl _ _⟩
  case round =>
    obtain ⟨d, f, i, rfl, rfl, hrel⟩ := hrel
    have hSp := hrel.out.1
    have hf1 := hSp.1
    have hf2 := hSp.2.1
    have hi3 := hSp.2.2.1
    have hdl := hSp.len
    have HR := hid hrel.out
    have wr1 : IntKind.i64.wrap ((i : Int) + 1) = ((i + 1 : Nat) : Int) := by rw [IntKind.wrap_i64]; omega
    by_cases hle : i ≤ x.length
    · have hle' : (i : Int) ≤ (x.length : Int) := by omega
      by_cases hsk : ∃ h : i < x.length, x[i] ≠ 47
      · obtain ⟨hlt, hne⟩ := hsk
        have hlt' : (i : Int) < (x.length : Int) := by omega
        have hs : (i : Int) < ((bs x).size : Int) := by omega
        have hs2 : i < (bs x).size := by omega
        have hb2 : ((((bs x)[i]'hs2).toNat : Int) != 47) = true := by
          have : ((bs x)[i]'hs2).toNat ≠ 47 := fun e => hne (UInt8.toNat_inj.1 e)
          simp; omega
        have HN := hid (hSp.skip hlt hne)
        clear hSp hrel
        go_wp2_with fail
        go_roundw
        case rel => exact ⟨d, f, i + 1, by simp, by simp, HN.out, HR.out.2⟩
        case measure => simp only [iof]; omega
      · have hc : ∀ h : i < x.length, x[i] = 47 := fun h => Classical.byContradiction fun e => hsk ⟨h, e⟩
        have HC := hid hc
        by_cases hif : i = f
        · have hbad := hSp.bad hle hc hif
          have e : q = ([], 211) := by rw [HE.out, if_pos (.inr hbad)]
          have HB := hid HR.out.2.2
          subst hif
          rw [e]
          clear hSp hrel HR HE e hbad hsk hc
          by_cases hlt : i < x.length
          · have hlt' : (i : Int) < (x.length : Int) := by omega
            have hs : (i : Int) < ((bs x).size : Int) := by omega
            have hs2 : i < (bs x).size := by omega
            have hb2 : ((((bs x)[i]'hs2).toNat : Int) != 47) = false := by
              have : (bs x)[i]'hs2 = 47 := HC.out hlt
              rw [this]; rfl
            go_wp2_with fail
            go_ret2
            exact ⟨none, 0, rfl, Ts.nil _ _, Nat.le_refl _, HB.out⟩
          · have hlt' : ¬ (i : Int) < (x.length : Int) := by omega
            go_wp2_with fail
            go_ret2
            exact ⟨none, 0, rfl, Ts.nil _ _, Nat.le_refl _, HB.out⟩
        · have hif' : ¬ (i : Int) = (f : Int) := by omega
          have HN := hid (hSp.piece hle hc hif)
          have hex := extract_pc x f i
          have hfi : (f : Int) ≤ (i : Int) := by omega
          have hile : (i : Int) ≤ ((bs x).size : Int) := by omega
          have own1 := hrel.out.2.1.alloc (.cells #[.string (bs (pc x f i))] 9)
          have hx1 := one_cell (w := wr) (v := .string (bs (pc x f i))) (t := 9)
          have hsz3 := hrel.out.2.2.size
          generalize pc x f i = p at *
          obtain ⟨k, hk⟩ : ∃ k, k = d.length := ⟨_, rfl⟩
          obtain ⟨ys, hys⟩ : ∃ ys, ys = sv d := ⟨_, rfl⟩
          rw [← hk, ← hys] at own1
          rw [← hk] at hdl
          have Hys := hid hys
          have Hk := hid hk
          clear hSp hrel hsk hc hk hys
          by_cases hlt : i < x.length
          · have hlt' : (i : Int) < (x.length : Int) := by omega
            have hs : (i : Int) < ((bs x).size : Int) := by omega
            have hs2 : i < (bs x).size := by omega
            have hb2 : ((((bs x)[i]'hs2).toNat : Int) != 47) = false := by
              have : (bs x)[i]'hs2 = 47 := HC.out hlt
              rw [this]; rfl
            go_wp2_with (at_builtin; refine wpList_append_own _ rfl _ _ 23 rfl w.heap.size 9 i0 (.string ⟨#[]⟩) 1 16 Tryd.underlying23 hi0 hz0 hz1 hz2 rfl (by decide) _ k _ rfl own1 ⟨wr.heap.size, 0, none⟩ 1 1 [.string (bs p)] rfl rfl hx1 ?c2 ?c3 ?c4 ?c5 ?_)
            case c2 => first | (intro u hu; simp at hu; subst hu; rfl) | rfl
            case c3 => unfold maxLen; omega
            case c4 => omega
            case c5 => first | omega | (simp; omega)
            intro v' w4 hown4 hgrow _
            have B4 : Below w.heap.size w w4 := (HR.out.2.2.alloc hsz3 _).grown hgrow (by simp; omega) (fun k hk => (HR.out.2.1.lt k hk).1)
            have HO : Hid (OT w4 w.heap.size v' (d ++ [p]) ∧ Below w.heap.size w w4) := by
              refine ⟨?_, B4⟩
              unfold OT
              rw [List.length_append, ← Hk.out, sv_append, ← Hys.out]
              exact hown4
            clear hown4 hgrow B4 own1 hx1
            go_wp2_with fail
            go_roundw
            case rel => exact ⟨d ++ [p], i + 1, i + 1, by simp, by simp, HN.out, HO.out⟩
            case measure => simp only [iof]; omega
          · have hlt' : ¬ (i : Int) < (x.length : Int) := by omega
            go_wp2_with (at_builtin; refine wpList_append_own _ rfl _ _ 23 rfl w.heap.size 9 i0 (.string ⟨#[]⟩) 1 16 Tryd.underlying23 hi0 hz0 hz1 hz2 rfl (by decide) _ k _ rfl own1 ⟨wr.heap.size, 0, none⟩ 1 1 [.string (bs p)] rfl rfl hx1 ?c2 ?c3 ?c4 ?c5 ?_)
            case c2 => first | (intro u hu; simp at hu; subst hu; rfl) | rfl
            case c3 => unfold maxLen; omega
            case c4 => omega
            case c5 => first | omega | (simp; omega)
            intro v' w4 hown4 hgrow _
            have B4 : Below w.heap.size w w4 := (HR.out.2.2.alloc hsz3 _).grown hgrow (by simp; omega) (fun k hk => (HR.out.2.1.lt k hk).1)
            have HO : Hid (OT w4 w.heap.size v' (d ++ [p]) ∧ Below w.heap.size w w4) := by
              refine ⟨?_, B4⟩
              unfold OT
              rw [List.length_append, ← Hk.out, sv_append, ← Hys.out]
              exact hown4
            clear hown4 hgrow B4 own1 hx1
            go_wp2_with fail
            go_roundw
            case rel => exact ⟨d ++ [p], i + 1, i + 1, by simp, by simp, HN.out, HO.out⟩
            case measure => simp only [iof]; omega
    · have hle' : ¬ (i : Int) ≤ (x.length : Int) := by omega
      obtain ⟨e1, e2⟩ := hSp.over hle
      subst e1
      have he3 : q = if 16 < (spl (x.drop 1)).length then ([], 211) else if (spl (x.drop 1)).all isName then (spl (x.drop 1), 0) else ([], 210) := by
        rw [HE.out]
        by_cases h16 : 16 < (spl (x.drop 1)).length
        · rw [if_pos (.inl h16), if_pos h16]
        · rw [if_neg (by rintro (h | h); exact h16 h; exact e2 h), if_neg h16]
      obtain ⟨a, c, ev, ht, hcap, _⟩ := HR.out.2.1.ts
      have HB := hid HR.out.2.2
      clear hSp hrel HR HE e2
      have HLN : Hid (∀ p ∈ spl (x.drop 1), p.length ≤ 9223372036854775807) := by
        refine hid (fun p hp => ?_)
        have h := congrArg List.length (jn_spl (x.drop 1))
        have h2 := mem_jn_len hp
        rw [h, List.length_cons, List.length_drop] at h2
        omega
      generalize spl (x.drop 1) = l at *
      subst ev
      have HE := hid he3
      have HT := hid ht
      clear he3 ht
      by_cases h16 : 16 < l.length
      · have h16' : (16 : Int) < (l.length : Int) := by omega
        have e : q = ([], 211) := by rw [HE.out, if_pos h16]
        subst e
        clear HE h16
        go_wp2_with fail
        go_ret2
        exact ⟨none, 0, rfl, Ts.nil _ _, Nat.le_refl _, HB.out⟩
      · have h16' : ¬ (16 : Int) < (l.length : Int) := by omega
        have HC := hid hcap
        have hl := h4
        have he4 := HE.out
        rw [if_neg h16] at he4
        have HQ := hid he4
        clear HE he4 h16 hcap
        go_wp2_with fail
        go_loopw [7] (fun v u => ∃ k : Nat, k ≤ l.length ∧ v = .int .i64 (k : Int) ∧ Hid ((l.take k).all isName = true ∧ Ts u a l ∧ Below w.heap.size w u)) (fun v _ => l.length - (iof v).toNat)
        case atStart => exact ⟨0, by omega, by simp, by simp, HT.out, HB.out⟩
        case round =>
          obtain ⟨k, hk, rfl, hrel⟩ := hrel
          by_cases hlt : k < l.length
          · obtain ⟨b, o, rfl, hb, hc⟩ := hrel.out.2.1 (by omega)
            have cc := hc k hlt
            clear hc
            have hlt' : (k : Int) < (l.length : Int) := by omega
            have wr1 : IntKind.i64.wrap ((k : Int) + 1) = ((k + 1 : Nat) : Int) := by rw [IntKind.wrap_i64]; omega
            have c2 := fun u hl => rname_at (l[k]'hlt) u hl
            have HX : Hid ((l.take (k + 1)).all isName = isName (l[k]'hlt)) := by
              refine hid ?_
              rw [List.take_succ_eq_append_getElem hlt, List.all_append, hrel.out.1]
              simp
            have HY : Hid (isName (l[k]'hlt) = false → l.all isName = false) := by
              refine hid (fun e => Bool.eq_false_iff.2 (fun h => ?_))
              have := List.all_eq_true.1 h _ (List.getElem_mem hlt)
              rw [e] at this
              cases this
            have hkl : (l[k]'hlt).length ≤ 9223372036854775807 := HLN.out _ (List.getElem_mem hlt)
            generalize l[k]'hlt = z at *
            have c2 := fun u => c2 u hkl
            cases hn : isName z
            · rw [hn] at c2
              have e : q = ([], 210) := by rw [HQ.out, if_neg (by rw [HY.out hn]; simp)]
              subst e
              go_wp2_with fail
              refine (c2 _).mono ?_
              rintro e w2 ⟨rfl, rfl⟩
              go_wp2_with fail
              go_ret2
              exact ⟨none, 0, rfl, Ts.nil _ _, Nat.le_refl _, hrel.out.2.2⟩
            · rw [hn] at c2 HX
              go_wp2_with fail
              refine (c2 _).mono ?_
              rintro e w2 ⟨rfl, rfl⟩
              have HF := hid (And.intro HX.out hrel.out.2)
              clear hrel c2
              go_wp2_with fail
              go_roundw
              case rel => exact ⟨k + 1, by omega, by simp, HF.out⟩
              case measure => simp only [iof]; omega
          · have hlt' : ¬ (k : Int) < (l.length : Int) := by omega
            have hall := hrel.out.1
            rw [List.take_of_length_le (by omega)] at hall
            have e : q = (l, 0) := by rw [HQ.out, if_pos hall]
            subst e
            have HF := hid hrel.out.2
            clear hrel hall
            go_wp2_with fail
            go_ret2
            exact ⟨a, c, rfl, HF.out.1, HC.out, HF.out.2⟩
set_option maxRecDepth 100000 in
set_option maxHeartbeats 1000000 in
theorem rsplit_at (x : Tx) (w : World) : Calls Tryd.prog 13 #[.string (bs x)] w (RT w (splitP x).1 (splitP x).2) := by
  obtain ⟨i0, hi0, hz0, hz1, hz2⟩ := info_parts infoS
  have hx := bs_toList x
  have hsz := bs_size x
  by_cases h0 : x = []
  · subst h0
    go_enter Tryd.func13, Tryd.ntmps13
    go_wp2_with fail
    go_ret2
    exact RT.nil _ _
  have hpos : 0 < x.length := List.length_pos_iff.2 h0
  by_cases h4 : 400 < x.length
  · have e : splitP x = ([], 211) := by unfold splitP; rw [if_neg (by intro e; rw [e] at h4; simp at h4), if_pos (.inl h4)]
    rw [e]
    have h4' : (400 : Int) < (x.length : Int) := by omega
    clear h4 e
    go_enter Tryd.func13, Tryd.ntmps13
    go_wp2_with fail
    go_ret2
    exact RT.nil _ _
  have h4' : ¬ (400 : Int) < (x.length : Int) := by omega
  have hs0 : 0 < (bs x).size := by omega
  have hs0' : (0 : Int) < ((bs x).size : Int) := by omega
  by_cases h47 : x[0] = 47
  · have hb : ((((bs x)[0]'hs0).toNat : Int) != 47) = false := by
      have : (bs x)[0]'hs0 = 47 := h47
      rw [this]; rfl
    obtain ⟨y, rfl⟩ : ∃ y, x = 47 :: y := by
      cases x with
      | nil => exact absurd rfl h0
      | cons c y => exact ⟨y, by have h' : c = 47 := h47; rw [h']⟩
    by_cases hy : y = []
    · subst hy
      have e : splitP [47] = ([], 0) := rfl
      rw [e]
      go_enter Tryd.func13, Tryd.ntmps13
      go_wp2_with fail
      go_ret2
      exact RT.nil _ _
    · have hl4 : y.length + 1 ≤ 400 := by simp at h4; omega
      exact rsplit_main (47 :: y) w (by have := List.length_pos_iff.2 hy; simp only [List.length_cons]; omega) (by simpa using hl4) rfl (splitP_of y hy hl4)
  · have e : splitP x = ([], 211) := by
      unfold splitP
      rw [if_neg (by intro e; subst e; exact h47 rfl), if_pos (.inr (by
        cases x with
        | nil => simp
        | cons c y =>
          have h' : c ≠ 47 := h47
          simpa using h'))]
    have hb : ((((bs x)[0]'hs0).toNat : Int) != 47) = true := by
      have : ((bs x)[0]'hs0).toNat ≠ 47 := fun e => h47 (UInt8.toNat_inj.1 e)
      simp; omega
    rw [e]
    clear h47 e
    go_enter Tryd.func13, Tryd.ntmps13
    go_wp2_with fail
    go_ret2
    exact RT.nil _ _
end Go.Proofs.YtcadnhjiodlpcaaDoor
