/-
  The document's own Join.
-/
import Derived.Test.YtcadnhjiodlpcaaDoorCpy
namespace Go.Proofs.YtcadnhjiodlpcaaDoor
open Go.RowKit
set_option maxRecDepth 100000 in
set_option maxHeartbeats 1000000 in
theorem rjoin_at {w : World} {a : Option Addr} {xs : List Tx} {c : Nat} (h : Ts w a xs) (hl : xs.length ≤ 9223372036854775807) (hx : ∀ x ∈ xs, x.length ≤ 9223372036854775807) :
    Calls Tryd.prog 14 #[.slice a xs.length c] w fun r w' => r = .returned (.tuple #[.string (bs (joinP xs).1), .int .i64 ((joinP xs).2 : Int)]) ∧ w' = w := by
  have HE : Hid (joinP xs = if xs.all isName then (if 16 < xs.length ∨ 400 < (pathOf xs).length then ([], 211) else (pathOf xs, 0)) else ([], 210)) := hid rfl
  have HT := hid h
  have HLN := hid hx
  generalize joinP xs = q at *
  clear h hx
  go_enter Tryd.func14, Tryd.ntmps14
  go_wp2_with fail
  go_loop [5] (fun v => ∃ k : Nat, k ≤ xs.length ∧ v = .int .i64 (k : Int) ∧ Hid ((xs.take k).all isName = true)) (fun v => xs.length - (iof v).toNat)
  case atStart => exact ⟨0, by omega, by simp, hid rfl⟩
  case round =>
    obtain ⟨k, hk, rfl, hrel⟩ := hrel
    by_cases hlt : k < xs.length
    · obtain ⟨b, o, rfl, hb, hc⟩ := HT.out (by omega)
      have cc := hc k hlt
      clear hc
      have hlt' : (k : Int) < (xs.length : Int) := by omega
      have wr1 : IntKind.i64.wrap ((k : Int) + 1) = ((k + 1 : Nat) : Int) := by rw [IntKind.wrap_i64]; omega
      have c2 := fun u => rname_at (xs[k]'hlt) u (HLN.out _ (List.getElem_mem hlt))
      have HX : Hid ((xs.take (k + 1)).all isName = isName (xs[k]'hlt)) := by
        refine hid ?_
        rw [List.take_succ_eq_append_getElem hlt, List.all_append, hrel.out]
        simp
      have HY : Hid (isName (xs[k]'hlt) = false → xs.all isName = false) := by
        refine hid (fun e => Bool.eq_false_iff.2 (fun h => ?_))
        have := List.all_eq_true.1 h _ (List.getElem_mem hlt)
        rw [e] at this
        cases this
      generalize xs[k]'hlt = z at *
      cases hn : isName z
      · rw [hn] at c2
        have e : q = ([], 210) := by rw [HE.out, if_neg (by rw [HY.out hn]; simp)]
        subst e
        go_wp2_with fail
        refine (c2 _).mono ?_
        rintro e w2 ⟨rfl, rfl⟩
        go_wp2_with fail
        go_ret2
        exact ⟨rfl, rfl⟩
      · rw [hn] at c2 HX
        go_wp2_with fail
        refine (c2 _).mono ?_
        rintro e w2 ⟨rfl, rfl⟩
        clear hrel c2
        go_wp2_with fail
        exact ⟨⟨k + 1, by omega, by simp, HX⟩, by simp only [iof]; omega⟩
    · have hlt' : ¬ (k : Int) < (xs.length : Int) := by omega
      have hall := hrel.out
      rw [List.take_of_length_le (by omega)] at hall
      have he2 : q = (if 16 < xs.length ∨ 400 < (pathOf xs).length then ([], 211) else (pathOf xs, 0)) := by rw [HE.out, if_pos hall]
      have hn60 := names_len hall
      have HA := hid hall
      have HQ := hid he2
      clear hrel HE he2 hall
      by_cases h16 : 16 < xs.length
      · have h16' : (16 : Int) < (xs.length : Int) := by omega
        have e : q = ([], 211) := by rw [HQ.out, if_pos (.inl h16)]
        subst e
        clear HQ h16 hn60
        go_wp2_with fail
        go_ret2
        exact ⟨rfl, rfl⟩
      · have h16' : ¬ (16 : Int) < (xs.length : Int) := by omega
        go_wp2_with fail
        go_loop [4, 6] (fun v i => ∃ j : Nat, j ≤ xs.length ∧ i = .int .i64 (j : Int) ∧ v = .string (bs (jn (xs.take j)))) (fun _ i => xs.length - (iof i).toNat)
        case atStart => exact ⟨0, by omega, by simp, rfl⟩
        case round =>
          obtain ⟨j, hj, rfl, rfl⟩ := hrel
          by_cases hlt2 : j < xs.length
          · obtain ⟨b, o, rfl, hb, hc⟩ := HT.out (by omega)
            have cc := hc j hlt2
            clear hc
            have hlt2' : (j : Int) < (xs.length : Int) := by omega
            have wr1 : IntKind.i64.wrap ((j : Int) + 1) = ((j + 1 : Nat) : Int) := by rw [IntKind.wrap_i64]; omega
            have HJ : Hid (jn (xs.take (j + 1)) = jn (xs.take j) ++ (47 :: xs[j]'hlt2)) := by
              refine hid ?_
              rw [List.take_succ_eq_append_getElem hlt2, jn_append]
              congr 1
              simp [jn]
            have hz60 : (xs[j]'hlt2).length ≤ 60 := (isName_pos (List.all_eq_true.1 HA.out _ (List.getElem_mem hlt2))).2
            have hj60 : (jn (xs.take j)).length ≤ 1000 := by
              have h1 : (jn xs).length = (jn (xs.take j)).length + (jn (xs.drop j)).length := by rw [← List.length_append, ← jn_append, List.take_append_drop]
              have h2 : pathOf xs = jn xs := if_neg (fun e => by rw [e] at hlt2; simp at hlt2)
              rw [h2] at hn60
              omega
            generalize xs[j]'hlt2 = z at *
            generalize jn (xs.take j) = t at *
            have ha1 : bs t ++ bs [47] = bs (t ++ [47]) := bs_append _ _
            have ha2 : bs (t ++ [47]) ++ bs z = bs (t ++ 47 :: z) := by rw [bs_append]; congr 1; simp
            have hs1 : (bs t).size = t.length := bs_size _
            have hs2 : (bs (t ++ [47])).size = t.length + 1 := by rw [bs_size]; simp
            have hs3 : (bs z).size = z.length := bs_size _
            go_wp2_with fail
            refine ⟨⟨j + 1, by omega, by simp, ?_⟩, by simp only [iof]; omega⟩
            rw [HJ.out]
            show Value.string (bs t ++ bs [47] ++ bs z) = _
            rw [ha1, ha2]
          · have hlt2' : ¬ (j : Int) < (xs.length : Int) := by omega
            have hj' : xs.take j = xs := List.take_of_length_le (by omega)
            rw [hj']
            have hsz := bs_size (jn xs)
            clear hj'
            have HQ2 : Hid (q = if 400 < (pathOf xs).length then ([], 211) else (pathOf xs, 0)) := by
              refine hid ?_
              rw [HQ.out]
              by_cases h4 : 400 < (pathOf xs).length
              · rw [if_pos (.inr h4), if_pos h4]
              · rw [if_neg (by rintro (h | h); exact h16 h; exact h4 h), if_neg h4]
            go_wp2_with fail
            · rename_i h4 _
              go_ret2
              have hne : xs ≠ [] := fun e => by rw [e] at h4; simp [jn] at h4
              have hp : pathOf xs = jn xs := if_neg hne
              have e : q = ([], 211) := by rw [HQ2.out, hp, if_pos (by omega)]
              rw [e]
              exact ⟨rfl, rfl⟩
            · rename_i h _
              go_ret2
              have h0 : xs = [] := List.eq_nil_of_length_eq_zero (by have := beq_iff_eq.1 h; omega)
              have e : q = ([47], 0) := by rw [HQ2.out, h0]; rfl
              rw [e]
              exact ⟨rfl, rfl⟩
            · rename_i h4 h _
              go_ret2
              have hne : xs ≠ [] := fun e => by rw [e] at h; simp at h
              have hp : pathOf xs = jn xs := if_neg hne
              have e : q = (jn xs, 0) := by rw [HQ2.out, hp, if_neg (by omega)]
              rw [e]
              exact ⟨rfl, rfl⟩
end Go.Proofs.YtcadnhjiodlpcaaDoor
