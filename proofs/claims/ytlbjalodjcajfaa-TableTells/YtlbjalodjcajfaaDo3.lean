/-
  The document's Remove.
-/
import Derived.Test.YtlbjalodjcajfaaDo2
import Derived.Lib.Walk
import Derived.Laws.AppendOwn
namespace Go.Proofs.Ytlbjalodjcajfaa
open Go.RowKit Go.Maps
theorem infoP : (Try.prog.info? 58).map (fun i => (i.zero, i.size, i.bytes)) = some (some (.agg #[.string ⟨#[]⟩, .string ⟨#[]⟩]), 2, 32) := by kernel_rfl
/-- a list of one's own -/
def OwnD (u : World) (B : Nat) (v : Value) (F : List Pr) : Prop := u.ownsRow B 58 2 v F.length (flat2 F) ∧ (v = .slice none 0 0 ↔ F = [])
theorem OwnD.nil (u : World) (B : Nat) : OwnD u B (.slice none 0 0) [] := ⟨⟨rfl, .inl ⟨rfl, rfl⟩⟩, by simp⟩
theorem OwnD.at' {u u' : World} {B : Nat} {v : Value} {F : List Pr} (h : OwnD u B v F) (hk : ∀ k, v.ownBlock = some k → k < u.heap.size → u'.heap[k]? = u.heap[k]?) : OwnD u' B v F := by
  refine ⟨⟨h.1.1, ?_⟩, h.2⟩
  rcases h.1.2 with h | ⟨g, cap, cur, rfl, hb, hg, r⟩
  · exact .inl h
  · exact .inr ⟨g, cap, cur, rfl, hb, (hk g rfl (Box.lt hg)).trans hg, r⟩
theorem OwnD.below {u u' : World} {B : Nat} {v : Value} {F : List Pr} (h : OwnD u B v F) (hb : Below u.heap.size u u') : OwnD u' B v F := h.at' (fun k _ hk => hb.block k hk)
theorem OwnD.block {u : World} {B : Nat} {v : Value} {F : List Pr} (h : OwnD u B v F) : ∀ k, v.ownBlock = some k → B ≤ k := by
  intro k hk
  rcases h.1.2 with ⟨rfl, _⟩ | ⟨g, cap, cur, rfl, hb, hg, r⟩
  · cases hk
  · cases hk; exact hb
theorem OwnD.doc {u : World} {B : Nat} {v : Value} {F : List Pr} (h : OwnD u B v F) : DocV u v F := by
  by_cases hF : F = []
  · exact .inl ⟨hF, h.2.2 hF⟩
  · rcases h.1.2 with ⟨e, _⟩ | ⟨g, cap, cur, e, hb, hg, h1, h2, h3, h4⟩
    · exact absurd (h.2.1 e) hF
    · exact .inr ⟨hF, g, cap, cur, e, hg, h3, h1, by unfold maxLen at h2; omega, h4⟩
/-- the same, or new -/
def Nw (B : Nat) (v v' : Value) : Prop := v' = v ∨ ∀ k, v'.ownBlock = some k → B ≤ k
theorem delP_take {P : List Pr} {j : Nat} {p : Pr} (h : P[j]? = some p) (key : ByteArray) : delP (P.take (j + 1)) key = delP (P.take j) key ++ (if p.1 = key then [] else [p]) := by
  unfold delP
  rw [List.take_add_one, h, List.filter_append]
  by_cases e : p.1 = key
  · rw [if_pos e]; simp [e]
  · rw [if_neg e]; simp [e]
theorem del_lt {P : List Pr} (ha : Asc P) (key : ByteArray) : decide ((delP P key).length < P.length) = (getP P key).isSome := by
  rcases cut_case ha key with ⟨A, p, B', hc, hk, hB⟩ | ⟨A, B, hc, hno⟩
  · rw [getP_has hc hk, delP_has hc hk hB, hc.eq]
    simp
  · rw [getP_no hno, delP_no hno]
    simp
section
variable {w : World} {v : Value} {P : List Pr} {key : ByteArray}
set_option maxRecDepth 100000 in
set_option maxHeartbeats 4000000 in
theorem rremove_at (h : DocV w v P) (hn : P.length ≤ 1024) (ha : Asc P) (key : ByteArray) :
    Calls Try.prog 17 #[v, .string key] w fun r w' => ∃ v', r = .returned (.tuple #[v', .bool (getP P key).isSome]) ∧ DocV w' v' (delP P key) ∧ Nw w.heap.size v v' ∧ Below w.heap.size w w' := by
  obtain ⟨i0, hi, hz0, hz1, hz2⟩ := info_parts infoP
  obtain ⟨a, c, rfl, hcl⟩ := h.open
  obtain ⟨z, hz⟩ : ∃ z, z = (getP P key).isSome := ⟨_, rfl⟩
  rw [← hz]
  have HC := hid (And.intro hcl (And.intro (del_lt ha key) hz))
  obtain ⟨n, hnl⟩ : ∃ n, n = P.length := ⟨_, rfl⟩
  rw [← hnl] at hn ⊢
  have HN := hid hnl
  clear hcl hnl hz h ha
  go_enter Try.func17, Try.ntmps17
  go_wp2_with fail
  go_loopw [6, 7] (fun vo x u => ∃ (j : Nat) (vv : Value), vo = vv ∧ j ≤ n ∧ x = .int .i64 (j : Int) ∧ Hid (OwnD u w.heap.size vv (delP (P.take j) key) ∧ Below w.heap.size w u)) (fun _ x _ => n - (iof x).toNat)
  case atStart => exact ⟨0, _, rfl, by omega, by simp, OwnD.nil _ _, Below.refl _ _⟩
  case round =>
    obtain ⟨j, vv, hvv, hj, rfl, hrel⟩ := hrel
    have hvv := hvv.symm
    subst hvv
    by_cases hlt : j < n
    · have hki : (j : Int) < (n : Int) := by omega
      have hjl : j < P.length := by rw [← HN.out]; omega
      have hx := List.getElem?_eq_getElem hjl
      obtain ⟨q, hq⟩ : ∃ q, q = P[j] := ⟨_, rfl⟩
      rw [← hq] at hx
      obtain ⟨b, rfl, d0, d1⟩ := HC.out.1 wr hrel.out.2 j q hx
      have hb := toList_beq q.1 key
      by_cases e : q.1 = key
      · have hd : decide (q.1 = key) = true := decide_eq_true e
        rw [hd] at hb
        have HF : Hid (OwnD wr w.heap.size vv (delP (P.take (j + 1)) key) ∧ Below w.heap.size w wr) := ⟨by rw [delP_take hx, if_pos e, List.append_nil]; exact hrel.out.1, hrel.out.2⟩
        clear hrel hx hq hd
        go_wp2_with fail
        go_roundw
        case rel => exact ⟨j + 1, vv, rfl, by omega, by simp, HF.out⟩
        case measure => simp only [iof]; omega
      · have hd : decide (q.1 = key) = false := decide_eq_false e
        rw [hd] at hb
        obtain ⟨F, hF⟩ : ∃ F, F = delP (P.take j) key := ⟨_, rfl⟩
        have hF2 : delP (P.take (j + 1)) key = F ++ [q] := by rw [delP_take hx, if_neg e, hF]
        have hFl : F.length ≤ 1024 := by
          rw [hF]
          exact Nat.le_trans (List.length_filter_le ..) (by simp; omega)
        have ho := hrel.out.1
        rw [← hF] at ho
        have hbl := hrel.out.2
        have ho1 := ho.below ((Below.refl _ wr).alloc (Nat.le_refl _) (.cells #[.string q.1, .string q.2] 58))
        have bxq := Box.new wr #[.string q.1, .string q.2] 58
        have hbl1 := hbl.alloc hbl.size (.cells #[.string q.1, .string q.2] 58)
        have HB := hid (And.intro hbl1 (And.intro ho1 (And.intro hF2 bxq)))
        obtain ⟨qk, qv⟩ := q
        simp only at d0 d1 hb HB
        clear hrel hx hq hd ho ho1 bxq hbl hbl1 hF hF2 e
        go_wp2_with (at_builtin; refine wpList_append_own _ rfl _ _ 44 rfl w.heap.size 58 i0 (.agg #[.string ⟨#[]⟩, .string ⟨#[]⟩]) 2 32 Try.underlying44 hi hz0 hz1 hz2 rfl (by decide) vv F.length (flat2 F) rfl HB.out.2.1.1 ⟨wr.heap.size, 0, none⟩ 1 1 (flat2 [(qk, qv)]) rfl ?qc1 ?qc2 ?qc3 ?qc4 ?qc5 ?qc6 ?_)
        case qc1 => rfl
        case qc2 => exact fun j u hj => hj
        case qc3 => exact flat2_one _
        case qc4 => unfold maxLen; omega
        case qc5 => omega
        case qc6 => have := HB.out.1.size; simp at this; first | exact this | (simp; omega)
        intro v2 w2 hown hgrow hnil
        obtain ⟨b1, b2, b3, _⟩ := HB.out
        have HF : Hid (OwnD w2 w.heap.size v2 (delP (P.take (j + 1)) key) ∧ Below w.heap.size w w2) := ⟨⟨by rw [b3, flat2_app]; simpa using hown, by rw [b3]; exact ⟨fun e => (hnil e).elim, fun e => by simp at e⟩⟩, b1.grown hgrow (by have := b1.size; exact this) (fun k hk => b2.block k hk)⟩
        clear hown hgrow hnil HB b1 b2 b3
        go_wp2_with fail
        go_roundw
        case rel => exact ⟨j + 1, v2, rfl, by omega, by simp, HF.out⟩
        case measure => simp only [iof]; omega
    · have hki : ¬ (j : Int) < (n : Int) := by omega
      have hjn : j = n := by omega
      have ho := hrel.out.1
      rw [show P.take j = P by rw [hjn, HN.out, List.take_length]] at ho
      obtain ⟨a2, c2, hv2⟩ := ownsRow_slice ho.1
      subst hv2
      have hk := HC.out.2.1
      rw [← HN.out] at hk
      have HNW := hid ho.block
      have HO := hid (And.intro ho.doc (And.intro hrel.out.2 (And.intro hk HC.out.2.2)))
      clear hrel ho hk HC hjn
      generalize (delP P key).length = m at *
      go_wp2_with fail
      go_ret2
      refine ⟨_, ?_, HO.out.1, .inr HNW.out, HO.out.2.1⟩
      rw [HO.out.2.2.2, ← HO.out.2.2.1]
      simp
end
end Go.Proofs.Ytlbjalodjcajfaa
