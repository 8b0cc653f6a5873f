/-
  NamesNumbers: the longest name and path, the most names, and one more.
-/
import Derived.Test.YtcadnhjiodlpcaaDoorLng
namespace Go.Proofs.YtcadnhjiodlpcaaDoor
open Go.RowKit
/-! ### plainly -/
def seg (k : Nat) : Tx := jn (List.replicate k (xs 60))
def yk (k : Nat) : Tx := jn (List.replicate k [121])
def l7 : List Tx := List.replicate 6 (xs 60) ++ [xs 33]
def m16 : List Tx := List.replicate 16 [121]
def q1 : Tx := seg 6 ++ 47 :: xs 33
def q2 : Tx := seg 6 ++ 47 :: xs 34
theorem seg_succ (k : Nat) : seg (k + 1) = seg k ++ 47 :: xs 60 := by
  unfold seg
  rw [List.replicate_succ', jn_append]
  congr 1
theorem yk_succ (k : Nat) : yk (k + 1) = yk k ++ [47, 121] := by
  unfold yk
  rw [List.replicate_succ', jn_append]
  rfl
theorem seg_len (k : Nat) : (seg k).length = 61 * k := by
  induction k with
  | zero => rfl
  | succ k ih => rw [seg_succ, List.length_append, ih]; simp [xs]; omega
theorem yk_len (k : Nat) : (yk k).length = 2 * k := by
  induction k with
  | zero => rfl
  | succ k ih => rw [yk_succ, List.length_append, ih]; simp; omega
set_option maxRecDepth 100000 in
theorem f1 : splitP q1 = (l7, 0) := by decide +kernel
set_option maxRecDepth 100000 in
theorem f2 : splitP q2 = ([], 211) := by decide +kernel
theorem f3 : splitP (yk 16) = (m16, 0) := by decide +kernel
theorem f4 : splitP (yk 17) = ([], 211) := by decide +kernel
theorem f5 : splitP (47 :: xs 61) = ([], 210) := by decide +kernel
theorem f6 : joinP l7 = (q1, 0) := by decide +kernel
theorem f7 : joinP (m16 ++ [[122]]) = ([], 211) := by decide +kernel
theorem f8 : isName (xs 60) = true := by decide +kernel
theorem f9 : isName (xs 61) = false := by decide +kernel
theorem q1_len : q1.length = 400 := by decide +kernel
theorem long_is (n : Nat) (m : Int) (hm : m = (n : Int)) (hn : n ≤ 1000) (w : World) : Calls Tryd.prog 7 #[.int .i64 m] w fun e w' => e = .returned (.string (bs (xs n))) ∧ Below w.heap.size w w' := by
  subst hm
  exact long_at n hn w
set_option maxRecDepth 100000 in
set_option maxHeartbeats 1000000 in
theorem numbers_at (w : World) (hm : MaxL w) : Calls Tryd.prog 3 #[] w fun e w' => e = .returned (.bool true) ∧ Below w.heap.size w w' := by
  have HM := hid hm
  have c60 := fun u => long_is 60 60 rfl (by omega) u
  have c61 := fun u => long_is 61 61 rfl (by omega) u
  have c33 := fun u => long_is 33 33 rfl (by omega) u
  have c34 := fun u => long_is 34 34 rfl (by omega) u
  have s60 : (bs (xs 60)).size = 60 := by decide +kernel
  have s61 : (bs (xs 61)).size = 61 := by decide +kernel
  have s33 : (bs (xs 33)).size = 33 := by decide +kernel
  have s34 : (bs (xs 34)).size = 34 := by decide +kernel
  clear hm
  go_enter Tryd.func3, Tryd.ntmps3
  go_wp2_with fail
  go_loopw [1, 2] (fun v i u => ∃ k : Nat, k ≤ 6 ∧ i = .int .i64 (k : Int) ∧ v = .string (bs (seg k)) ∧ Hid (Below w.heap.size w u)) (fun _ i _ => 6 - (iof i).toNat)
  case atStart => exact ⟨0, by omega, by simp, rfl, Below.refl _ _⟩
  case round =>
    obtain ⟨k, hk, rfl, rfl, hrel⟩ := hrel
    by_cases hlt : k < 6
    · have hlt' : (k : Int) < 6 := by omega
      have wr1 : IntKind.i64.wrap ((k : Int) + 1) = ((k + 1 : Nat) : Int) := by rw [IntKind.wrap_i64]; omega
      have HS := hid (seg_succ k)
      have hl := seg_len k
      generalize seg k = t at *
      have hs1 : (bs t).size = 61 * k := by rw [bs_size, hl]
      have hz1 : (bs t ++ bs [47]).size = 61 * k + 1 := by rw [bs_append, bs_size, List.length_append, hl]; rfl
      clear hl
      go_wp2_with fail
      refine (c60 _).mono ?_
      rintro e w2 ⟨rfl, b2⟩
      have HB := hid (hrel.out.trans (b2.mono hrel.out.size))
      clear hrel b2
      have hz3 : (bs t ++ bs [47] ++ bs (xs 60)).size = 61 * k + 61 := by rw [ByteArray.size_append, hz1, s60]
      go_wp2_with fail
      go_roundw
      case rel =>
        refine ⟨k + 1, by omega, by simp, ?_, HB.out⟩
        rw [HS.out]
        show Value.string (bs t ++ bs [47] ++ bs (xs 60)) = _
        rw [bs_append, bs_append, List.append_assoc]
        rfl
      case measure => simp only [iof]; omega
    · have hlt' : ¬ (k : Int) < 6 := by omega
      obtain rfl : k = 6 := by omega
      have hA33 : bs (seg 6) ++ ({ data := #[47] } : ByteArray) ++ bs (xs 33) = bs q1 := by
        show bs (seg 6) ++ bs [47] ++ bs (xs 33) = _
        rw [bs_append, bs_append, List.append_assoc]; rfl
      have hA34 : bs (seg 6) ++ ({ data := #[47] } : ByteArray) ++ bs (xs 34) = bs q2 := by
        show bs (seg 6) ++ bs [47] ++ bs (xs 34) = _
        rw [bs_append, bs_append, List.append_assoc]; rfl
      have hs6 : (bs (seg 6)).size = 366 := by rw [bs_size, seg_len]
      have hz6 : (bs (seg 6) ++ bs [47]).size = 367 := by rw [ByteArray.size_append, hs6]; rfl
      generalize seg 6 = p6 at *
      have hz33 : (bs p6 ++ bs [47] ++ bs (xs 33)).size = 400 := by rw [ByteArray.size_append, hz6, s33]
      have hz34 : (bs p6 ++ bs [47] ++ bs (xs 34)).size = 401 := by rw [ByteArray.size_append, hz6, s34]
      have B0 := hid hrel.out
      clear hrel hk
      go_wp2_with fail
      go_loopw [3, 4] (fun v i u => ∃ k : Nat, k ≤ 16 ∧ i = .int .i64 (k : Int) ∧ v = .string (bs (yk k)) ∧ Hid (Below w.heap.size w u)) (fun _ i _ => 16 - (iof i).toNat)
      case atStart => exact ⟨0, by omega, by simp, rfl, B0.out⟩
      case round =>
        obtain ⟨k, hk, rfl, rfl, hrel⟩ := hrel
        by_cases hlt : k < 16
        · have hlt' : (k : Int) < 16 := by omega
          have wr1 : IntKind.i64.wrap ((k : Int) + 1) = ((k + 1 : Nat) : Int) := by rw [IntKind.wrap_i64]; omega
          have HS := hid (yk_succ k)
          have hl := yk_len k
          generalize yk k = t at *
          have hs1 : (bs t).size = 2 * k := by rw [bs_size, hl]
          have hz1 : (bs t ++ bs [47, 121]).size = 2 * k + 2 := by rw [bs_append, bs_size, List.length_append, hl]; rfl
          clear hl
          go_wp2_with fail
          go_roundw
          case rel =>
            refine ⟨k + 1, by omega, by simp, ?_, hrel⟩
            rw [HS.out]
            show Value.string (bs t ++ bs [47, 121]) = _
            rw [bs_append]
          case measure => simp only [iof]; omega
        · have hlt' : ¬ (k : Int) < 16 := by omega
          obtain rfl : k = 16 := by omega
          have B1 := hid hrel.out
          have hA17 : bs (yk 16) ++ ({ data := #[47, 121] } : ByteArray) = bs (yk 17) := by
            show bs (yk 16) ++ bs [47, 121] = _
            rw [bs_append]; rfl
          have hs16 : (bs (yk 16)).size = 32 := by rw [bs_size, yk_len]
          have g3 := fun u hu => split_is f3 u hu
          have g4 := fun u hu => split_is f4 u hu
          have g1 := fun u hu => split_is f1 u hu
          have g2 := fun u hu => split_is f2 u hu
          have g5 := fun u hu => split_is f5 u hu
          have hA61 : ({ data := #[47] } : ByteArray) ++ bs (xs 61) = bs (47 :: xs 61) := by
            show bs [47] ++ bs (xs 61) = _
            rw [bs_append]; rfl
          have hq1 : (bs q1).size = 400 := by rw [bs_size, q1_len]
          have hL7 : l7.length = 7 := by decide
          have hM16 : m16.length = 16 := by decide
          have g6 := fun u a c (h : Ts u a l7) hc => join_is (w := u) (a := a) (c := c) f6 h hc (by rw [hL7]; omega)
          have g7 := fun u a c (h : Ts u a (m16 ++ [[122]])) hc => join_is (w := u) (a := a) (c := c) f7 h hc (by rw [List.length_append, hM16]; simp)
          have hM17 : (m16 ++ [[122]]).length = 17 := by decide
          rw [hM17] at g7
          rw [hL7] at g6
          unfold RS at g1 g3
          rw [hL7] at g1
          rw [hM16] at g3
          generalize 47 :: xs 61 = q61 at *
          generalize q1 = Q1 at *
          generalize q2 = Q2 at *
          generalize l7 = L7 at *
          have HM17 := hid hM17
          have HSV : Hid (sv m16 = sv m16) := rfl
          generalize yk 16 = y16 at *
          generalize yk 17 = y17 at *
          clear hrel hk
          go_wp2_with fail
          refine (c33 _).mono ?_
          rintro e w2 ⟨rfl, b2⟩
          have B2 := hid (B1.out.trans (b2.mono B1.out.size))
          clear b2 B1 c33
          go_wp2_with fail
          refine (g1 _ (HM.out.below B2.out)).mono ?_
          rintro e w3 ⟨a3, d3, rfl, t3, hd3, _, b3⟩
          have B3 := hid (B2.out.trans (b3.mono B2.out.size))
          have T3 := hid t3
          clear b3 B2 g1 t3
          go_wp2_with fail
          refine (c34 _).mono ?_
          rintro e w4 ⟨rfl, b4⟩
          have B4 := hid (B3.out.trans (b4.mono B3.out.size))
          have T3 := hid (T3.out.below b4 (Nat.le_refl _))
          clear b4 B3 c34
          go_wp2_with fail
          refine (g2 _ (HM.out.below B4.out)).mono ?_
          rintro e w5 ⟨a5, d5, rfl, _, _, _, b5⟩
          have B5 := hid (B4.out.trans (b5.mono B4.out.size))
          have T3 := hid (T3.out.below b5 (Nat.le_refl _))
          clear b5 B4 g2
          go_wp2_with fail
          refine (g3 _ (HM.out.below B5.out)).mono ?_
          rintro e w6 ⟨a6, d6, rfl, t6, hd6, _, b6⟩
          have B6 := hid (B5.out.trans (b6.mono B5.out.size))
          have T3 := hid (T3.out.below b6 (Nat.le_refl _))
          have T6 := hid t6
          clear b6 B5 g3 t6
          go_wp2_with fail
          refine (g4 _ (HM.out.below B6.out)).mono ?_
          rintro e w7 ⟨a7, d7, rfl, _, _, _, b7⟩
          have B7 := hid (B6.out.trans (b7.mono B6.out.size))
          have T3 := hid (T3.out.below b7 (Nat.le_refl _))
          have T6 := hid (T6.out.below b7 (Nat.le_refl _))
          clear b7 B6 g4
          go_wp2_with fail
          refine (c61 _).mono ?_
          rintro e w8 ⟨rfl, b8⟩
          have B8 := hid (B7.out.trans (b8.mono B7.out.size))
          have T3 := hid (T3.out.below b8 (Nat.le_refl _))
          have T6 := hid (T6.out.below b8 (Nat.le_refl _))
          clear b8 B7
          go_wp2_with fail
          refine (g5 _ (HM.out.below B8.out)).mono ?_
          rintro e w9 ⟨a9, d9, rfl, _, _, _, b9⟩
          have B9 := hid (B8.out.trans (b9.mono B8.out.size))
          have T3 := hid (T3.out.below b9 (Nat.le_refl _))
          have T6 := hid (T6.out.below b9 (Nat.le_refl _))
          clear b9 B8 g5
          go_wp2_with fail
          refine (g6 _ _ _ T3.out hd3).mono ?_
          rintro e w10 ⟨rfl, b10⟩
          have B10 := hid (B9.out.trans (b10.mono B9.out.size))
          have T6 := hid (T6.out.below b10 (Nat.le_refl _))
          clear b10 B9 g6 T3
          obtain ⟨i0, hi0, hz0, hz1', hz2⟩ := info_parts infoS
          have own0 : (w10.alloc (.cells #[] 9)).ownsRow w10.heap.size 9 1 (.slice (some ⟨w10.heap.size, 0, none⟩) 0 0) 0 [] := by
            refine ⟨rfl, .inr ⟨w10.heap.size, 0, #[], rfl, Nat.le_refl _, heap_alloc_new w10 _, Nat.le_refl _, by simp [maxLen], rfl, rfl⟩⟩
          have B11 := hid (B10.out.alloc B10.out.size (.cells #[] 9))
          have T7 := hid (T6.out.below ((Below.refl _ _).alloc (Nat.le_refl _) (.cells #[] 9)) (Nat.le_refl _))
          obtain ⟨b, o, rfl, hb, hcs⟩ := T7.out (by rw [hM16]; omega)
          have hnews : ∀ (j : Nat) (u : Value), (sv m16)[j]? = some u → (w10.alloc (.cells #[] 9)).cell? ((⟨b, o, none⟩ : Addr).add j) = some u := by
            intro j u hj
            obtain ⟨hjl, rfl⟩ := List.getElem?_eq_some_iff.1 hj
            rw [Addr.add_lit, hcs j (by simpa [sv] using hjl)]
            simp [sv]
          have hsvl : (sv m16).length = 16 := by simp [sv, hM16]
          have hsv1 : ∀ u ∈ sv m16, u.oneCell' = true := by
            intro u hu
            obtain ⟨x, _, rfl⟩ := List.mem_map.1 hu
            rfl
          clear hcs T6
          go_wp2_with (at_builtin; refine wpList_append_own _ rfl _ _ 23 rfl w10.heap.size 9 i0 (.string ⟨#[]⟩) 1 16 Tryd.underlying23 hi0 hz0 hz1' hz2 rfl (by decide) _ 0 _ rfl own0 ⟨b, o, none⟩ 16 d6 (sv m16) rfl hsvl hnews hsv1 ?c3 ?c4 ?c5 ?_)
          case c3 => unfold maxLen; omega
          case c4 => omega
          case c5 => simp
          intro v1 w11 own1 grow1 _
          have hg0 : Below w10.heap.size w10 w11 := ((Below.refl _ _).alloc (Nat.le_refl _) (.cells #[] 9)).grown grow1 (by simp) (fun k hk => by simp [Value.ownBlock] at hk; omega)
          have B12 := hid (B10.out.trans (hg0.mono B10.out.size))
          clear grow1 own0 hnews hsvl hsv1 B11 T7 hb
          have hsz12 := hg0.size
          have own2 := own1.alloc (.cells #[.string (bs [122])] 9)
          have hx2 := one_cell (w := w11) (v := .string (bs [122])) (t := 9)
          have own1lt := hid own1.lt
          go_wp2_with (at_builtin; refine wpList_append_own _ rfl _ _ 23 rfl w10.heap.size 9 i0 (.string ⟨#[]⟩) 1 16 Tryd.underlying23 hi0 hz0 hz1' hz2 rfl (by decide) _ 16 _ rfl own2 ⟨w11.heap.size, 0, none⟩ 1 1 [.string (bs [122])] rfl rfl hx2 ?c2 ?c3 ?c4 ?c5 ?_)
          case c2 => first | (intro u hu; simp at hu; subst hu; rfl) | rfl
          case c3 => unfold maxLen; omega
          case c4 => omega
          case c5 => first | omega | (simp; omega)
          intro v2 w12 own3 grow2 _
          have hg2 : Below w10.heap.size w10 w12 := (hg0.alloc hsz12 (.cells #[.string (bs [122])] 9)).grown grow2 (by simp; omega) (fun k hk => (own1lt.out k hk).1)
          have B13 := hid (B10.out.trans (hg2.mono B10.out.size))
          have ho : OT w12 w10.heap.size v2 (m16 ++ [[122]]) := by
            unfold OT
            rw [sv_append, HM17.out]
            exact own3
          obtain ⟨a12, d12, ev, t12, hd12, _⟩ := ho.ts
          rw [HM17.out] at ev hd12
          subst ev
          have g8 := g7 w12 a12 d12 t12 hd12
          clear own3 grow2 own2 hx2 own1 ho t12 g7 B12 B10 hg0 hg2
          go_wp2_with fail
          refine g8.mono ?_
          rintro e w13 ⟨rfl, b13⟩
          have B14 := hid (B13.out.trans (b13.mono B13.out.size))
          clear b13 B13 g8
          go_wp2_with fail
          refine (c60 _).mono ?_
          rintro e w14 ⟨rfl, b14⟩
          have B15 := hid (B14.out.trans (b14.mono B14.out.size))
          have n60 := name_is f8 w14
          clear b14 B14 c60
          go_wp2_with fail
          refine n60.mono ?_
          rintro e w15 ⟨rfl, b15⟩
          have B16 := hid (B15.out.trans (b15.mono B15.out.size))
          clear b15 B15 n60
          go_wp2_with fail
          refine (c61 _).mono ?_
          rintro e w16 ⟨rfl, b16⟩
          have B17 := hid (B16.out.trans (b16.mono B16.out.size))
          have n61 := name_is f9 w16
          clear b16 B16 c61
          go_wp2_with fail
          refine n61.mono ?_
          rintro e w17 ⟨rfl, b17⟩
          have B18 := hid (B17.out.trans (b17.mono B17.out.size))
          have ca := awake_at w17 (HM.out.below B18.out)
          clear b17 B17 n61
          go_wp2_with fail
          refine ca.mono ?_
          rintro e w18 ⟨rfl, b18⟩
          have B19 := hid (B18.out.trans (b18.mono B18.out.size))
          clear b18 B18 ca
          go_wp2_with fail
          go_ret
          exact ⟨rfl, B19.out⟩
end Go.Proofs.YtcadnhjiodlpcaaDoor
