/-
  The document's Put, walked.
-/
import Derived.Test.YtlbjalodjcajfaaDop
namespace Go.Proofs.Ytlbjalodjcajfaa
open Go.RowKit Go.Maps
section
variable {w : World} {v : Value} {P : List Pr}
set_option maxRecDepth 100000 in
set_option maxHeartbeats 4000000 in
theorem rput_nil (n : Nat) (h1 : 1 ≤ n) (key val : ByteArray) :
    Calls Try.prog 14 #[.slice none 0 0, .int .i64 (n : Int), .string key, .string val] w fun r w' => ∃ v', r = .returned (.tuple #[v', .int .i64 0]) ∧ DocV w' v' [(key, val)] ∧ Nw w.heap.size (.slice none 0 0) v' ∧ Below w.heap.size w w' := by
  obtain ⟨i0, hi, hz0, hz1, hz2⟩ := info_parts infoP
  have cf := rfind_no (w := w) (v := .slice none 0 0) (P := []) (key := key) (.inl ⟨rfl, rfl⟩) (by decide) (fun p hp => by cases hp)
  have hn0 : ¬ (0 : Int) = (n : Int) := by omega
  have hn1 : ((0 : Int) == (n : Int)) = false := by simpa using hn0
  go_enter Try.func14, Try.ntmps14
  go_wp2_with (at_builtin; refine wpList_append_own_none rfl _ _ 44 rfl w.heap.size 58 i0 2 Try.underlying44 hi (.slice none 0 0) 0 [] rfl (World.ownsRow_nil _ _ _ _) rfl ?_)
  refine cf.mono ?_
  rintro e w1 ⟨rfl, hb⟩
  have bxq := Box.new w1 #[.string key, .string val] 58
  have hb1 := hb.alloc hb.size (.cells #[.string key, .string val] 58)
  have HB := hid (And.intro hb1 bxq)
  clear cf hb bxq hb1
  go_wp2_with (at_builtin; refine wpList_append_own _ rfl _ _ 44 rfl w.heap.size 58 i0 (.agg #[.string ⟨#[]⟩, .string ⟨#[]⟩]) 2 32 Try.underlying44 hi hz0 hz1 hz2 rfl (by decide) (.slice none 0 0) 0 [] rfl (World.ownsRow_nil _ _ _ _) ⟨w1.heap.size, 0, none⟩ 1 1 (flat2 [(key, val)]) rfl ?qc1 ?qc2 ?qc3 ?qc4 ?qc5 ?qc6 ?_)
  case qc1 => rfl
  case qc2 => exact fun j u hj => by rw [Addr.add_lit, Nat.zero_add, HB.out.2.cell]; simpa [flat2, pc] using hj
  case qc3 => exact flat2_one _
  case qc4 => unfold maxLen; omega
  case qc5 => omega
  case qc6 => have := HB.out.1.size; simp at this; first | exact this | (simp; omega)
  intro v2 w2 hown hgrow hnil
  have ho : OwnD w2 w.heap.size v2 [(key, val)] := ⟨by simpa using hown, ⟨fun e => (hnil e).elim, fun e => by cases e⟩⟩
  obtain ⟨g, cap, cur, rfl, hg, hl2⟩ := ho.l2 (by simp)
  have HGW : Hid (w.heap.size ≤ g) := hg
  have H2 := hid (And.intro hl2 (show Below w.heap.size w w2 from HB.out.1.grown hgrow (by have := HB.out.1.size; exact this) (fun k hk => by cases hk)))
  clear hown hgrow hnil ho hl2 HB
  go_wp2_with fail
  go_loopw [12] (fun x u => x = .int .i64 0 ∧ u = w2) (fun _ _ => 0)
  case atStart => exact ⟨rfl, rfl⟩
  case round =>
    obtain ⟨rfl, hw⟩ := hrel
    subst wr
    go_wp2_with fail
    go_quiet (fail)
    go_wp2_with fail
    go_ret2
    exact ⟨_, rfl, (H2.out.1.drewN _).doc (by simp), .inr (fun k e => by cases e; exact HGW.out), below_drewN H2.out.2 _⟩
set_option maxRecDepth 100000 in
set_option maxHeartbeats 8000000 in
theorem rput_more {g0 cap0 : Nat} {cur0 : Array Value} (hl0 : L2 w g0 cap0 P cur0) (hP : P ≠ []) (ha : Asc P) (n : Nat) (hn : P.length ≤ n) (hn2 : n ≤ 200) (key val : ByteArray) :
    Calls Try.prog 14 #[.slice (some ⟨g0, 0, none⟩) P.length cap0, .int .i64 (n : Int), .string key, .string val] w fun r w' => ∃ v', r = .returned (.tuple #[v', .int .i64 (putP n P key val).1]) ∧ DocV w' v' (putP n P key val).2 ∧ Nw w.heap.size (.slice (some ⟨g0, 0, none⟩) P.length cap0) v' ∧ Below w.heap.size w w' := by
  obtain ⟨i0, hi, hz0, hz1, hz2⟩ := info_parts infoP
  obtain ⟨N, hN⟩ : ∃ N, N = P.length := ⟨_, rfl⟩
  have HL := hid (And.intro hl0 hN)
  have hrow : w.ownsRow w.heap.size 58 2 (.slice none 0 0) 0 [] := World.ownsRow_nil _ _ _ _
  have hsrc : ∀ j u, (flat2 P)[j]? = some u → w.cell? ((⟨g0, 0, none⟩ : Addr).add j) = some u := fun j u hj => by
    have hjl := (List.getElem?_eq_some_iff.1 hj).1
    have := hl0.tk
    rw [← this, List.getElem?_take] at hj
    split at hj
    · rw [Addr.add_lit, Nat.zero_add, hl0.bx.cell]; simpa using hj
    · cases hj
  have HS := hid hsrc
  rw [← hN] at hn ⊢
  have HPP : Hid (putP n P key val = if (getP P key).isSome = true ∨ P.length < n then (0, insP P key val) else (5, P)) := rfl
  generalize putP n P key val = pp at *
  clear hl0 hN hsrc
  go_enter Try.func14, Try.ntmps14
  go_wp2_with (at_builtin; refine wpList_append_own _ rfl _ _ 44 rfl w.heap.size 58 i0 (.agg #[.string ⟨#[]⟩, .string ⟨#[]⟩]) 2 32 Try.underlying44 hi hz0 hz1 hz2 rfl (by decide) (.slice none 0 0) 0 [] rfl hrow ⟨g0, 0, none⟩ N cap0 (flat2 P) rfl ?qc1 ?qc2 ?qc3 ?qc4 ?qc5 ?qc6 ?_)
  case qc1 => rw [flat2_len, HL.out.2]
  case qc2 => exact HS.out
  case qc3 => exact flat2_one _
  case qc4 => unfold maxLen; omega
  case qc5 => omega
  case qc6 => exact Nat.le_refl _
  intro v2 w2 hown hgrow hnil
  have hPn : N ≠ 0 := by rw [HL.out.2]; exact fun e => hP (List.length_eq_zero_iff.1 e)
  have ho : OwnD w2 w.heap.size v2 P := ⟨by rw [← HL.out.2]; simpa using hown, ⟨fun e => absurd (hnil.1 e) hPn, fun e => absurd e hP⟩⟩
  obtain ⟨g, cap, cur, rfl, hg, hl2⟩ := ho.l2 hP
  have hb2 : Below w.heap.size w w2 := (Below.refl _ w).grown hgrow (Nat.le_refl _) (fun k hk => by cases hk)
  have hgw : Hid (w.heap.size ≤ g) := hg
  rw [← HL.out.2]
  clear hown hgrow hnil ho hrow HS
  rcases cut_case ha key with ⟨A, p, B', hc, hk, hB⟩ | ⟨A, B, hc, hno⟩
  · have hs := (getP_iff (P := P) (key := key)).2 ⟨p, by rw [hc.eq]; simp, hk⟩
    have hpp := HPP.out
    rw [if_pos (.inl hs)] at hpp
    subst hpp
    have cf := rfind_yes (hl2.doc hP) (by rw [← HL.out.2]; omega) (cut_get hc) hk (cut_first hc)
    rw [← HL.out.2] at cf
    have hiA : A.length < N := by rw [HL.out.2]; exact (List.getElem?_eq_some_iff.1 (cut_get hc)).1
    have hset : P.set A.length (p.1, val) = insP P key val := by
      rw [insP_has hc hk hB, hk, hc.eq, List.set_append_right _ _ (by simp)]; simp
    have HH := hid (And.intro hl2 (And.intro hb2 (And.intro (cut_get hc) hset)))
    generalize A.length = i at *
    clear hc hB hs hl2 hb2 hset
    go_wp2_with fail
    refine cf.mono ?_
    rintro e w3 ⟨rfl, hb3⟩
    obtain ⟨hl2, hb2, hcg, hset⟩ := HH.out
    have hl3 := hl2.below hb3
    obtain ⟨c0, c1⟩ := hl3.get hcg
    have f1 := hl3.bx.frozen (i * 2 + 1)
    have hl4 := hl3.val hcg val
    rw [hset] at hl4
    have hb4 : Below w.heap.size w (w3.setCell ⟨g, i * 2 + 1, none⟩ (.string val)) := (hb2.trans (hb3.mono hb2.size)).setCell (p := ⟨g, i * 2 + 1, none⟩) hgw.out _
    have hlen : (insP P key val).length = N := by rw [← hset, List.length_set, HL.out.2]
    have hdoc := hl4.doc (fun e => by rw [e] at hlen; exact hPn hlen.symm)
    rw [hlen] at hdoc
    have H4 := hid (And.intro hdoc hb4)
    have hki : (i : Int) < (N : Int) := by omega
    clear cf HH hl2 hb2 hcg hset hl3 hl4 hb4 hdoc hlen hb3
    go_wp2_with fail
    go_ret2
    exact ⟨_, rfl, H4.out.1, .inr (fun k e => by cases e; exact hgw.out), H4.out.2⟩
  · have hs : (getP P key).isSome = false := by
      cases hg : (getP P key).isSome with
      | false => rfl
      | true => obtain ⟨p, hp, hk⟩ := getP_iff.1 hg; exact absurd hk (hno p hp)
    have cf := rfind_no (hl2.doc hP) (by rw [← HL.out.2]; omega) hno
    rw [← HL.out.2] at cf
    have HH := hid (And.intro hl2 (And.intro hb2 hno))
    have hpp := HPP.out
    clear hc hl2 hb2
    go_wp2_with fail
    refine cf.mono ?_
    rintro e w3 ⟨rfl, hb3⟩
    obtain ⟨hl2, hb2, hno⟩ := HH.out
    have hl3 := hl2.below hb3
    have hb3' := hb2.trans (hb3.mono hb2.size)
    clear cf hl2 hb2 hb3
    by_cases hfull : N = n
    · rw [if_neg (by rw [hs]; simp; rw [← HL.out.2]; omega)] at hpp
      subst hpp
      subst hfull
      have hdoc := (HL.out.1.doc hP).below hb3'
      rw [← HL.out.2] at hdoc
      have H4 := hid (And.intro hdoc hb3')
      clear hdoc hb3' hl3 HH hno hs
      go_wp2_with fail
      go_ret2
      exact ⟨_, rfl, H4.out.1, .inl rfl, H4.out.2⟩
    · rw [if_pos (.inr (by rw [← HL.out.2]; omega))] at hpp
      subst hpp
      have hfi : ¬ (N : Int) = (n : Int) := by omega
      have hfi2 : ((N : Int) == (n : Int)) = false := by simpa using hfi
      have bxq := Box.new w3 #[.string key, .string val] 58
      have hb4 := hb3'.alloc hb3'.size (.cells #[.string key, .string val] 58)
      have ho4 : OwnD (w3.alloc (.cells #[.string key, .string val] 58)) w.heap.size (.slice (some ⟨g, 0, none⟩) N cap) P := ⟨⟨by rw [flat2_len], .inr ⟨g, cap, cur, by rw [HL.out.2], hgw.out, hl3.bx.alloc _, hl3.le, by unfold maxLen; have := hl3.mx; omega, hl3.sz, hl3.tk⟩⟩, ⟨fun e => (by cases e), fun e => absurd e hP⟩⟩
      have HB := hid (And.intro hb4 (And.intro ho4 bxq))
      have hno' := hid hno
      clear hl3 hb3' bxq hb4 ho4 HH hno hs
      go_wp2_with (at_builtin; refine wpList_append_own _ rfl _ _ 44 rfl w.heap.size 58 i0 (.agg #[.string ⟨#[]⟩, .string ⟨#[]⟩]) 2 32 Try.underlying44 hi hz0 hz1 hz2 rfl (by decide) (.slice (some ⟨g, 0, none⟩) N cap) N (flat2 P) rfl (by have := HB.out.2.1.1; rwa [← HL.out.2] at this) ⟨w3.heap.size, 0, none⟩ 1 1 (flat2 [(key, val)]) rfl ?rc1 ?rc2 ?rc3 ?rc4 ?rc5 ?rc6 ?_)
      case rc1 => rfl
      case rc2 => exact fun j u hj => by rw [Addr.add_lit, Nat.zero_add, HB.out.2.2.cell]; simpa [flat2, pc] using hj
      case rc3 => exact flat2_one _
      case rc4 => unfold maxLen; omega
      case rc5 => omega
      case rc6 => have := HB.out.1.size; simp at this; first | exact this | (simp; omega)
      intro v5 w5 hown hgrow hnil
      have ho : OwnD w5 w.heap.size v5 (sunkP P (key, val) N) := ⟨by rw [HL.out.2, sunkP_all, flat2_app, List.length_append]; rw [← HL.out.2]; simpa using hown, ⟨fun e => (hnil e).elim, fun e => absurd e (by rw [HL.out.2, sunkP_all]; simp)⟩⟩
      have hsl : (sunkP P (key, val) N).length = N + 1 := by rw [sunkP_len (by rw [HL.out.2]; exact Nat.le_refl _), HL.out.2]
      obtain ⟨g5, cap5, cur5, rfl, hg5, hl5⟩ := ho.l2 (fun e => by rw [e] at hsl; simp at hsl)
      rw [hsl]
      have hb5 : Below w.heap.size w w5 := HB.out.1.grown hgrow (by have := HB.out.1.size; exact this) (fun k hk => by cases hk; exact hgw.out)
      have hgw5 : Hid (w.heap.size ≤ g5) := hg5
      have H5 := hid (And.intro hl5 hb5)
      clear hown hgrow hnil ho hl5 hb5 HB hsl hg5 hgw
      go_wp2_with fail
      go_loopw [12] (fun x u => ∃ k : Nat, k ≤ N ∧ x = .int .i64 (k : Int) ∧ Hid ((∃ cur, L2 u g5 cap5 (sunkP P (key, val) k) cur) ∧ Below w.heap.size w u ∧ ∀ (j : Nat) (q : Pr), k ≤ j → P[j]? = some q → blt key q.1 = true)) (fun x _ => (iof x).toNat)
      case atStart => exact ⟨N, Nat.le_refl _, by simp, ⟨_, H5.out.1⟩, H5.out.2, fun j q hj hq => by have := (List.getElem?_eq_some_iff.1 hq).1; have := HL.out.2; omega⟩
      case round =>
        clear H5
        obtain ⟨k, hk, rfl, hrel⟩ := hrel
        obtain ⟨⟨cur, hl⟩, hb, hhi⟩ := hrel.out
        have hfin : Hid (∀ u, Below wr.heap.size wr u → (k = 0 ∨ ∃ q, P[k - 1]? = some q ∧ blt key q.1 = false) → DocV u (.slice (some ⟨g5, 0, none⟩) (N + 1) cap5) (insP P key val) ∧ Below w.heap.size w u) := fun u hu hlo => by
          have hc := sunk_cut ha hno'.out (by rw [← HL.out.2]; exact hk) hhi hlo
          have hins := insP_new hc (fun b hb => hno'.out b (List.mem_of_mem_drop hb)) val
          have hsk : sunkP P (key, val) k = insP P key val := hins.symm
          have hln : (sunkP P (key, val) k).length = N + 1 := by rw [sunkP_len (by rw [← HL.out.2]; exact hk), ← HL.out.2]
          have := (hl.below hu).doc (fun e => by rw [e] at hln; simp at hln)
          rw [hln, hsk] at this
          exact ⟨this, hb.trans (hu.mono hb.size)⟩
        have hkP : k ≤ P.length := by rw [← HL.out.2]; exact hk
        obtain ⟨c0, c1⟩ := hl.get (sunkP_at (e := (key, val)) hkP)
        simp only at c0 c1
        by_cases hk0 : k = 0
        · subst hk0
          have HF := hid (fun q => hfin.out (wr.drewN q) ⟨rfl, rfl, rfl, Nat.le_refl _, fun _ _ => rfl⟩ (.inl rfl))
          clear hfin hrel hl hb hhi
          go_wp2_with fail
          go_quiet (fail)
          go_wp2_with fail
          go_ret2
          exact ⟨_, rfl, (HF.out _).1, .inr (fun k e => by cases e; exact hgw5.out), (HF.out _).2⟩
        · obtain ⟨m, rfl⟩ : ∃ m, k = m + 1 := ⟨k - 1, by omega⟩
          have hml : m < P.length := by omega
          have hy := List.getElem?_eq_getElem hml
          obtain ⟨y, hye⟩ : ∃ y, y = P[m] := ⟨_, rfl⟩
          rw [← hye] at hy
          obtain ⟨d0, d1⟩ := hl.get (sunkP_before (e := (key, val)) hy)
          obtain ⟨yk, yv⟩ := y
          simp only at d0 d1
          have hbl : Op.bytesLess key.toList yk.toList = blt key yk := rfl
          have hgt0 : (0 : Int) < (m : Int) + 1 := by omega
          have r1 : IntKind.i64.wrap (m : Int) = (m : Int) := by rw [IntKind.wrap_i64]; omega
          have r2 : (m : Int) < (N : Int) + 1 := by omega
          have r3 : (m : Int) + 1 < (N : Int) + 1 := by omega
          have r4 : (0 : Int) ≤ (m : Int) + 1 := by omega
          have r5 : ((m : Int) + 1).toNat = m + 1 := by omega
          clear hye hk0
          cases hlt2 : blt key yk with
          | false =>
            rw [hlt2] at hbl
            have HF := hid (fun q => hfin.out (wr.drewN q) ⟨rfl, rfl, rfl, Nat.le_refl _, fun _ _ => rfl⟩ (.inr ⟨(yk, yv), hy, hlt2⟩))
            clear hfin hrel hl hb hhi hy
            go_wp2_with fail
            go_quiet (fail)
            go_wp2_with fail
            go_ret2
            exact ⟨_, rfl, (HF.out _).1, .inr (fun k e => by cases e; exact hgw5.out), (HF.out _).2⟩
          | true =>
            rw [hlt2] at hbl
            have hhi2 : Hid (∀ (j : Nat) (q : Pr), m ≤ j → P[j]? = some q → blt key q.1 = true) := fun j q hj hq => by
              by_cases e : j = m
              · subst e; rw [hy] at hq; injection hq with hq; rw [← hq]; exact hlt2
              · exact hhi j q (by omega) hq
            have HLb := hid (And.intro hl (And.intro hb hy))
            clear hfin hrel hhi hl hb hy hlt2
            go_wp2_with fail
            go_quiet (fail)
            obtain ⟨wy, hwy⟩ : ∃ wy, wy = wr.drewN nq := ⟨_, rfl⟩
            have hly : L2 wy g5 cap5 (sunkP P (key, val) (m + 1)) cur := by rw [hwy]; exact HLb.out.1.drewN nq
            have hby : Below w.heap.size w wy := by rw [hwy]; exact below_drewN HLb.out.2.1 nq
            have HY := hid (And.intro hly (And.intro hby HLb.out.2.2))
            rw [← hwy]
            clear hwy hly hby HLb c0 c1 d0 d1
            go_wp2_with fail
            obtain ⟨hly, hby, hy⟩ := HY.out
            have hld := hly.drewN 1
            have hLi := sunkP_at (e := (key, val)) hkP
            have hLj := sunkP_before (e := (key, val)) hy
            obtain ⟨x0, x1⟩ := hld.get hLi
            obtain ⟨y0, y1⟩ := hld.get hLj
            obtain ⟨x0', x1'⟩ := hly.get hLi
            obtain ⟨y0', y1'⟩ := hly.get hLj
            have hil := (List.getElem?_eq_some_iff.1 hLi).1
            have hjl := (List.getElem?_eq_some_iff.1 hLj).1
            obtain ⟨z0, z1⟩ := hld.mid hil hLj (by omega) (yk, yv)
            obtain ⟨z0', z1'⟩ := hly.mid hil hLj (by omega) (yk, yv)
            have hst := (hly.set hil (yk, yv)).set (i := m) (by simpa using hjl) (key, val)
            rw [sunkP_swap hy] at hst
            have hbs : Below w.heap.size w ((((wy.setCell ⟨g5, (m + 1) * 2, none⟩ (.string yk)).setCell ⟨g5, (m + 1) * 2 + 1, none⟩ (.string yv)).setCell ⟨g5, m * 2, none⟩ (.string key)).setCell ⟨g5, m * 2 + 1, none⟩ (.string val)) := (((hby.setCell (p := ⟨g5, _, none⟩) hgw5.out _).setCell (p := ⟨g5, _, none⟩) hgw5.out _).setCell (p := ⟨g5, _, none⟩) hgw5.out _).setCell (p := ⟨g5, _, none⟩) hgw5.out _
            simp only at x0 x1 y0 y1 x0' x1' y0' y1' z0 z1 z0' z1' hst
            have HST := hid (And.intro hst hbs)
            have HCS : Hid (∀ q ∈ [((⟨g5, (m + 1) * 2, none⟩ : Addr), (.string key : Value)), (⟨g5, (m + 1) * 2 + 1, none⟩, .string val), (⟨g5, m * 2, none⟩, .string yk), (⟨g5, m * 2 + 1, none⟩, .string yv)], wy.drew.cell? q.1 = some q.2) := fun q hq => by
              simp at hq
              rcases hq with rfl | rfl | rfl | rfl
              · exact x0
              · exact x1
              · exact y0
              · exact y1
            have fz : ∀ q : Nat, wy.frozen? ⟨g5, q, none⟩ = false := fun q => hld.bx.frozen q
            clear hst hbs hly hld hby hy HY hLi hLj hil hjl
            refine wp_region_any (by kernel_rfl) ?_
            refine wpAny_take (i := 0) (v := ?_) rfl (by kernel_rfl) (by kernel_rfl) (by kernel_rfl) (fun _ _ _ h => h) (Or.inl ⟨by rfl, ?_⟩) ?_
            rotate_left
            · intro u
              go_simp
              with_reducible rfl
            simp only [Act.put, List.setIfInBounds_toArray, List.set_cons_zero, List.set_cons_succ, List.getElem_toArray, List.getElem_cons_zero]
            refine wpAny_take (i := 1) (v := ?_) rfl (by kernel_rfl) (by kernel_rfl) (by kernel_rfl) (fun _ _ _ h => h) (Or.inl ⟨by rfl, ?_⟩) ?_
            rotate_left
            · intro u
              go_simp
              with_reducible rfl
            simp only [Act.put, List.setIfInBounds_toArray, List.set_cons_zero, List.set_cons_succ, List.getElem_toArray, List.getElem_cons_zero, List.getElem_cons_succ]
            refine wpAny_take (i := 2) (v := ?_) rfl (by kernel_rfl) (by kernel_rfl) (by kernel_rfl) (fun _ _ _ h => h) (Or.inl ⟨by rfl, ?_⟩) ?_
            rotate_left
            · intro u
              go_simp
              with_reducible rfl
            simp only [Act.put, List.setIfInBounds_toArray, List.set_cons_zero, List.set_cons_succ, List.getElem_toArray, List.getElem_cons_zero, List.getElem_cons_succ]
            refine wpAny_take (i := 3) (v := ?_) rfl (by kernel_rfl) (by kernel_rfl) (by kernel_rfl) (fun _ _ _ h => h) (Or.inl ⟨by rfl, ?_⟩) ?_
            rotate_left
            · intro u
              go_simp
              with_reducible rfl
            simp only [Act.put, List.setIfInBounds_toArray, List.set_cons_zero, List.set_cons_succ, List.getElem_toArray, List.getElem_cons_zero, List.getElem_cons_succ]
            refine wpAny_take (i := 4) (v := ?_) rfl (by kernel_rfl) (by kernel_rfl) (by kernel_rfl) (fun _ _ _ h => h) (Or.inl ⟨by rfl, ?_⟩) ?_
            rotate_left
            · intro u
              go_simp
              with_reducible rfl
            simp only [Act.put, List.setIfInBounds_toArray, List.set_cons_zero, List.set_cons_succ, List.getElem_toArray, List.getElem_cons_zero, List.getElem_cons_succ]
            refine wpAny_take (i := 5) (v := ?_) rfl (by kernel_rfl) (by kernel_rfl) (by kernel_rfl) (fun _ _ _ h => h) (Or.inl ⟨by rfl, ?_⟩) ?_
            rotate_left
            · intro u
              go_simp
              with_reducible rfl
            simp only [Act.put, List.setIfInBounds_toArray, List.set_cons_zero, List.set_cons_succ, List.getElem_toArray, List.getElem_cons_zero, List.getElem_cons_succ]
            refine wpAny_take (i := 6) (v := ?_) rfl (by kernel_rfl) (by kernel_rfl) (by kernel_rfl) (fun _ _ _ h => h) (Or.inl ⟨by rfl, ?_⟩) ?_
            rotate_left
            · intro u
              go_simp
              with_reducible rfl
            simp only [Act.put, List.setIfInBounds_toArray, List.set_cons_zero, List.set_cons_succ, List.getElem_toArray, List.getElem_cons_zero, List.getElem_cons_succ]
            refine wpAny_take (i := 7) (v := ?_) rfl (by kernel_rfl) (by kernel_rfl) (by kernel_rfl) (fun _ _ _ h => h) (Or.inl ⟨by rfl, ?_⟩) ?_
            rotate_left
            · intro u
              go_simp
              with_reducible rfl
            simp only [Act.put, List.setIfInBounds_toArray, List.set_cons_zero, List.set_cons_succ, List.getElem_toArray, List.getElem_cons_zero, List.getElem_cons_succ]
            refine wpAny_take (i := 8) (v := ?_) rfl (by kernel_rfl) (by kernel_rfl) (by kernel_rfl) (fun _ _ _ h => h) (Or.inl ⟨by rfl, ?_⟩) ?_
            rotate_left
            · intro u
              go_simp
              with_reducible rfl
            simp only [Act.put, List.setIfInBounds_toArray, List.set_cons_zero, List.set_cons_succ, List.getElem_toArray, List.getElem_cons_zero, List.getElem_cons_succ]
            refine wpAny_take (i := 10) (v := ?_) rfl (by kernel_rfl) (by kernel_rfl) (by kernel_rfl) (fun _ _ _ h => h) (Or.inl ⟨by rfl, ?_⟩) ?_
            rotate_left
            · intro u
              go_simp
              with_reducible rfl
            simp only [Act.put, List.setIfInBounds_toArray, List.set_cons_zero, List.set_cons_succ, List.getElem_toArray, List.getElem_cons_zero, List.getElem_cons_succ]
            refine wpAny_take (i := 11) (v := ?_) rfl (by kernel_rfl) (by kernel_rfl) (by kernel_rfl) (fun _ _ _ h => h) (Or.inl ⟨by rfl, ?_⟩) ?_
            rotate_left
            · intro u
              go_simp
              with_reducible rfl
            simp only [Act.put, List.setIfInBounds_toArray, List.set_cons_zero, List.set_cons_succ, List.getElem_toArray, List.getElem_cons_zero, List.getElem_cons_succ]
            refine wpAny_take (i := 12) (v := ?_) rfl (by kernel_rfl) (by kernel_rfl) (by kernel_rfl) (fun _ _ _ h => h) (Or.inl ⟨by rfl, ?_⟩) ?_
            rotate_left
            · intro u
              go_simp
              with_reducible rfl
            simp only [Act.put, List.setIfInBounds_toArray, List.set_cons_zero, List.set_cons_succ, List.getElem_toArray, List.getElem_cons_zero, List.getElem_cons_succ]
            refine wpAny_of_E (C := SlotsCells [(67, .pointer (some ⟨g5, m * 2, none⟩)), (71, .pointer (some ⟨g5, (m + 1) * 2, none⟩))] [(⟨g5, (m + 1) * 2, none⟩, .string key), (⟨g5, (m + 1) * 2 + 1, none⟩, .string val), (⟨g5, m * 2, none⟩, .string yk), (⟨g5, m * 2 + 1, none⟩, .string yv)]) (late := [15, 17]) _ _ _ _ ?_
            refine wpAnyE_take (i := 9) (v := .agg #[.string yk, .string yv]) rfl (by kernel_rfl) (by kernel_rfl) (by kernel_rfl) (by kernel_rfl) (by kernel_rfl) (by kernel_rfl) (fun _ _ _ h => h) ?_ (fun fr u h => (SlotsCells.put 68 _ (by rfl)).1 h) (fun fr u h => (SlotsCells.put 68 _ (by rfl)).2 h) ?_ ?_
            · intro fr u hh
              have e1 := hh.val (s := 67) (v := .pointer (some ⟨g5, m * 2, none⟩)) (by simp)
              have d0 := hh.2 (⟨g5, m * 2, none⟩, .string yk) (by simp)
              have d1 := hh.2 (⟨g5, m * 2 + 1, none⟩, .string yv) (by simp)
              exact ⟨rfl, by simp [execOp, e1, go_sem, d0, d1]⟩
            · exact ⟨fun q hq => by simp at hq; rcases hq with rfl | rfl <;> rfl, HCS.out⟩
            simp only [Act.put, List.setIfInBounds_toArray, List.set_cons_zero, List.set_cons_succ, List.getElem_toArray, List.getElem_cons_zero, List.getElem_cons_succ]
            refine wpAnyE_take (i := 13) (v := .agg #[.string key, .string val]) rfl (by kernel_rfl) (by kernel_rfl) (by kernel_rfl) (by kernel_rfl) (by kernel_rfl) (by kernel_rfl) (fun _ _ _ h => h) ?_ (fun fr u h => (SlotsCells.put 72 _ (by rfl)).1 h) (fun fr u h => (SlotsCells.put 72 _ (by rfl)).2 h) ?_ ?_
            · intro fr u hh
              have e1 := hh.val (s := 71) (v := .pointer (some ⟨g5, (m + 1) * 2, none⟩)) (by simp)
              have d0 := hh.2 (⟨g5, (m + 1) * 2, none⟩, .string key) (by simp)
              have d1 := hh.2 (⟨g5, (m + 1) * 2 + 1, none⟩, .string val) (by simp)
              exact ⟨rfl, by simp [execOp, e1, go_sem, d0, d1]⟩
            · exact ⟨fun q hq => by simp at hq; rcases hq with rfl | rfl <;> rfl, HCS.out⟩
            simp only [Act.put, List.setIfInBounds_toArray, List.set_cons_zero, List.set_cons_succ, List.getElem_toArray, List.getElem_cons_zero, List.getElem_cons_succ]
            refine wpAnyE_pure (i := 14) (v := ?_) rfl (by kernel_rfl) (by kernel_rfl) (by kernel_rfl) (by kernel_rfl) (fun _ _ _ h => h) (fun fr u h => (SlotsCells.put 73 _ (by rfl)).1 h) (fun fr u h => (SlotsCells.put 73 _ (by rfl)).2 h) (.inr ⟨fun q hq => by simp at hq; rcases hq with rfl | rfl <;> rfl, HCS.out⟩) (Or.inl ⟨by rfl, ?_⟩) ?_
            rotate_left
            · intro u
              go_simp
              with_reducible rfl
            simp only [Act.put, List.setIfInBounds_toArray, List.set_cons_zero, List.set_cons_succ, List.getElem_toArray, List.getElem_cons_zero, List.getElem_cons_succ]
            refine wpAnyE_some (rs := [15]) (by kernel_rfl) (by simp) (fun i hi => ?_)
            simp only [List.mem_cons, List.not_mem_nil, or_false] at hi
            subst hi
            refine wpOp_step rfl (fun Kc hKc => ?_)
            go_simp
            refine hKc _ _ ⟨.inr (.inl rfl), ?_⟩
            clear hKc Kc
            refine wpAnyE_some (rs := [16]) (by kernel_rfl) (by simp) (fun i hi => ?_)
            simp only [List.mem_cons, List.not_mem_nil, or_false] at hi
            subst hi
            refine wpOp_step rfl (fun Kc hKc => ?_)
            go_simp
            refine hKc _ _ ⟨.inl (by kernel_rfl), ?_⟩
            clear hKc Kc
            refine wpAnyE_some (rs := [17]) (by kernel_rfl) (by simp) (fun i hi => ?_)
            simp only [List.mem_cons, List.not_mem_nil, or_false] at hi
            subst hi
            refine wpOp_step rfl (fun Kc hKc => ?_)
            go_simp
            refine hKc _ _ ⟨.inr (.inl rfl), ?_⟩
            clear hKc Kc
            refine wpAnyE_done (by kernel_rfl) ?_ _
            go_wp2_with fail
            go_roundw
            case rel => exact ⟨m, by omega, by simp, ⟨_, HST.out.1.drewN 1⟩, below_drewN HST.out.2 1, hhi2.out⟩
            case measure => simp only [iof]; omega
end
end Go.Proofs.Ytlbjalodjcajfaa
