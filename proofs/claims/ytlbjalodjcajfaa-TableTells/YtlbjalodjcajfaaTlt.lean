/-
  A table and the document's list beside it.
-/
import Derived.Test.YtlbjalodjcajfaaDo4
import Derived.Test.YtlbjalodjcajfaaArg
import Derived.Test.YtlbjalodjcajfaaAwk
namespace Go.Proofs.Ytlbjalodjcajfaa
open Go.RowKit Go.Maps
theorem asc_put {n : Nat} {P : List Pr} (ha : Asc P) (hl : P.length ≤ n) (key val : ByteArray) : Asc (putP n P key val).2 ∧ (putP n P key val).2.length ≤ n := by
  unfold putP
  split
  · rename_i h
    refine ⟨asc_ins ha val, ?_⟩
    cases hg : (getP P key).isSome with
    | true => rw [show ((0 : Int), insP P key val).2 = insP P key val from rfl, insP_len_has ha val hg]; exact hl
    | false =>
      rw [show ((0 : Int), insP P key val).2 = insP P key val from rfl, insP_len_no ha val hg]
      rcases h with h | h
      · rw [hg] at h; cases h
      · omega
  · exact ⟨ha, hl⟩
theorem rput_at {w : World} {v : Value} {P : List Pr} (h : DocV w v P) (ha : Asc P) (n : Nat) (n1 : 1 ≤ n) (hn : P.length ≤ n) (hn2 : n ≤ 200) (key val : ByteArray) :
    Calls Try.prog 14 #[v, .int .i64 (n : Int), .string key, .string val] w fun r w' => ∃ v', r = .returned (.tuple #[v', .int .i64 (putP n P key val).1]) ∧ DocV w' v' (putP n P key val).2 ∧ Nw w.heap.size v v' ∧ Below w.heap.size w w' := by
  rcases h with ⟨rfl, rfl⟩ | ⟨hP, g, cap, cur, rfl, h⟩
  · have e : putP n [] key val = (0, [(key, val)]) := by
      unfold putP
      rw [if_pos (.inr (show ([] : List Pr).length < n from n1))]
      simp [insP]
    rw [e]
    exact rput_nil n n1 key val
  · exact rput_more h hP ha n hn hn2 key val
/-- the document's list among the boxes -/
def DocK (v : Value) (P : List Pr) (K : List Bx) : Prop := (P = [] ∧ v = .slice none 0 0) ∨ (P ≠ [] ∧ ∃ g cap cur, v = .slice (some ⟨g, 0, none⟩) P.length cap ∧ (g, cur, 58) ∈ K ∧ cur.size = cap * 2 ∧ P.length ≤ cap ∧ cap ≤ 9223372036854775807 ∧ cur.toList.take (P.length * 2) = flat2 P)
theorem DocK.doc {v : Value} {P : List Pr} {K : List Bx} {u : World} (h : DocK v P K) (hk : AllB u K) : DocV u v P := by
  rcases h with h | ⟨h1, g, cap, cur, h2, h3, h4, h5, h6, h7⟩
  · exact .inl h
  · exact .inr ⟨h1, g, cap, cur, h2, hk _ h3, h4, h5, h6, h7⟩
theorem DocK.more {v : Value} {P : List Pr} {K K' : List Bx} (h : DocK v P K) (hk : ∀ y ∈ K, y ∈ K') : DocK v P K' := by
  rcases h with h | ⟨h1, g, cap, cur, h2, h3, h⟩
  · exact .inl h
  · exact .inr ⟨h1, g, cap, cur, h2, hk _ h3, h⟩
section
variable {w0 u u' : World} {x t base n : Nat} {P Q : List Pr} {v : Value} {B : List Bx}
/-- P in the table, Q in the document's list v, and boxes B -/
def TT (w0 u : World) (x t base n : Nat) (P Q : List Pr) (v : Value) (B : List Bx) : Prop := ∃ V K, HasP w0 u x t base n 250 P K V ∧ DocK v Q K ∧ Asc Q ∧ Q.length ≤ n ∧ n ≤ 200 ∧ ∀ y ∈ B, y ∈ K
theorem TT.below (h : TT w0 u x t base n P Q v B) (hb : Below u.heap.size u u') : TT w0 u' x t base n P Q v B := by
  obtain ⟨V, K, h1, h⟩ := h
  exact ⟨V, K, h1.below hb, h⟩
theorem TT.drewN (h : TT w0 u x t base n P Q v B) (k : Nat) : TT w0 (u.drewN k) x t base n P Q v B := h.below ⟨rfl, rfl, rfl, Nat.le_refl _, fun _ _ => rfl⟩
theorem TT.drew (h : TT w0 u x t base n P Q v B) : TT w0 u.drew x t base n P Q v B := h.below ⟨rfl, rfl, rfl, Nat.le_refl _, fun _ _ => rfl⟩
theorem TT.less (h : TT w0 u x t base n P Q v B) {B' : List Bx} (hs : ∀ y ∈ B', y ∈ B) : TT w0 u x t base n P Q v B' := by
  obtain ⟨V, K, h1, h2, h3, h4, h5, h6⟩ := h
  exact ⟨V, K, h1, h2, h3, h4, h5, fun y hy => h6 y (hs y hy)⟩
theorem TT.bx (h : TT w0 u x t base n P Q v B) : AllB u B := by
  obtain ⟨V, K, h1, h2, h3, h4, h5, h6⟩ := h
  exact fun y hy => h1.h.bK y (h6 y hy)
theorem TT.bel (h : TT w0 u x t base n P Q v B) : Below w0.heap.size w0 u := by
  obtain ⟨V, K, h1, h⟩ := h
  exact h1.h.bel
theorem TT.box (h : TT w0 u x t base n P Q v B) (cs : Array Value) (ty : TypeId) : TT w0 (u.alloc (.cells cs ty)) x t base n P Q v ((u.heap.size, cs, ty) :: B) := by
  obtain ⟨V, K, h1, h2, h3, h4, h5, h6⟩ := h
  refine ⟨V, _, h1.box cs ty, h2.more (fun y hy => List.mem_cons_of_mem _ hy), h3, h4, h5, fun y hy => ?_⟩
  rcases List.mem_cons.1 hy with rfl | hy
  · exact List.mem_cons_self ..
  · exact List.mem_cons_of_mem _ (h6 y hy)
theorem TT.doc (h : TT w0 u x t base n P Q v B) : DocV u v Q := by
  obtain ⟨V, K, h1, h2, _⟩ := h
  exact h2.doc h1.h.bK
theorem TT.turn {v' : Value} {Q' : List Pr} (h : TT w0 u x t base n P Q v B) (hd : DocV u' v' Q') (hn : Nw u.heap.size v v') (hb : Below u.heap.size u u') (ha : Asc Q') (hl : Q'.length ≤ n) : TT w0 u' x t base n P Q' v' B := by
  obtain ⟨V, K, h1, h2, h3, h4, h5, h6⟩ := h
  have h1' := h1.below hb
  rcases hd with ⟨rfl, rfl⟩ | ⟨hQ, g, cap, cur, rfl, hd⟩
  · exact ⟨V, K, h1', .inl ⟨rfl, rfl⟩, ha, hl, h5, h6⟩
  rcases hn with hn | hn
  · rcases h2 with ⟨_, e⟩ | ⟨_, g2, cap2, cur2, e, hm, _⟩
    · rw [e] at hn; cases hn
    · rw [e] at hn
      injection hn with e1 e2 e3
      injection e1 with e1
      injection e1 with e1
      subst e1
      have hx := h1'.h.bK _ hm
      have := hx.symm.trans hd.bx
      injection this with this
      injection this with this
      subst this
      exact ⟨V, K, h1', .inr ⟨hQ, g, cap, cur2, rfl, hm, hd.sz, hd.le, hd.mx, hd.tk⟩, ha, hl, h5, h6⟩
  · have hg := hn g rfl
    exact ⟨V, (g, cur, 58) :: K, h1.keep (h1.h.adopt hb hd.bx hg) (List.mem_cons_of_mem _ h1.tk), .inr ⟨hQ, g, cap, cur, rfl, List.mem_cons_self .., hd.sz, hd.le, hd.mx, hd.tk⟩, ha, hl, h5, fun y hy => List.mem_cons_of_mem _ (h6 y hy)⟩
theorem TT.rput (h : TT w0 u x t base n P Q v B) (key val : ByteArray) : Calls Try.prog 14 #[v, .int .i64 (n : Int), .string key, .string val] u fun r w' => ∃ a m c, r = .returned (.tuple #[.slice a m c, .int .i64 (putP n Q key val).1]) ∧ TT w0 w' x t base n P (putP n Q key val).2 (.slice a m c) B := by
  have hh := h
  obtain ⟨V, K, h1, h2, h3, h4, h5, h6⟩ := hh
  refine (rput_at h.doc h3 n h1.n1 h4 h5 key val).mono (fun r w' ⟨v', e, hd, hn, hb⟩ => ?_)
  obtain ⟨a, c, rfl, _⟩ := hd.open
  exact ⟨_, _, _, e, h.turn hd hn hb (asc_put h3 h4 key val).1 (asc_put h3 h4 key val).2⟩
theorem TT.rremove (h : TT w0 u x t base n P Q v B) (key : ByteArray) : Calls Try.prog 17 #[v, .string key] u fun r w' => ∃ a m c, r = .returned (.tuple #[.slice a m c, .bool (getP Q key).isSome]) ∧ TT w0 w' x t base n P (delP Q key) (.slice a m c) B := by
  have hh := h
  obtain ⟨V, K, h1, h2, h3, h4, h5, h6⟩ := hh
  refine (rremove_at h.doc (by omega) h3 key).mono (fun r w' ⟨v', e, hd, hn, hb⟩ => ?_)
  obtain ⟨a, c, rfl, _⟩ := hd.open
  exact ⟨_, _, _, e, h.turn hd hn hb (asc_del h3) (Nat.le_trans (List.length_filter_le ..) h4)⟩
theorem TT.rget (h : TT w0 u x t base n P Q v B) (key : ByteArray) : Calls Try.prog 16 #[v, .string key] u fun r w' => r = .returned (.tuple #[.string ((getP Q key).getD ⟨#[]⟩), .bool (getP Q key).isSome]) ∧ TT w0 w' x t base n P Q v B := by
  have hh := h
  obtain ⟨V, K, h1, h2, h3, h4, h5, h6⟩ := hh
  exact (rget_at h.doc (by omega) h3 key).mono (fun r w' ⟨e, hb⟩ => ⟨e, h.below hb⟩)
theorem TT.rnext (h : TT w0 u x t base n P Q v B) (key : ByteArray) : Calls Try.prog 19 #[v, .string key] u fun r w' => r = .returned (.tuple #[ag2 ((nxtP Q key).getD (⟨#[]⟩, ⟨#[]⟩)), .bool (nxtP Q key).isSome]) ∧ TT w0 w' x t base n P Q v B := by
  have hh := h
  obtain ⟨V, K, h1, h2, h3, h4, h5, h6⟩ := hh
  exact (rnext_at h.doc (by omega) key).mono (fun r w' ⟨e, hb⟩ => ⟨e, h.below hb⟩)
theorem TT.put (h : TT w0 u x t base n P Q v B) (key val : ByteArray) : Calls Try.prog 9 #[ptr t, .string key, .string val] u fun r w' => r = .returned (.int .i64 (putP n P key val).1) ∧ TT w0 w' x t base n (putP n P key val).2 Q v B := by
  obtain ⟨V, K, h1, h⟩ := h
  exact (h1.put key val).mono (fun r w' ⟨e, V', h'⟩ => ⟨e, V', K, h', h⟩)
theorem TT.remove (h : TT w0 u x t base n P Q v B) (key : ByteArray) : Calls Try.prog 18 #[ptr t, .string key] u fun r w' => r = .returned (.tuple #[.bool (getP P key).isSome, .int .i64 0]) ∧ TT w0 w' x t base n (delP P key) Q v B := by
  obtain ⟨V, K, h1, h⟩ := h
  exact (h1.remove key).mono (fun r w' ⟨e, V', h'⟩ => ⟨e, V', K, h', h⟩)
theorem TT.get (h : TT w0 u x t base n P Q v B) (key : ByteArray) : Calls Try.prog 15 #[ptr t, .string key] u fun r w' => r = .returned (.tuple #[.string ((getP P key).getD ⟨#[]⟩), .bool (getP P key).isSome, .int .i64 0]) ∧ TT w0 w' x t base n P Q v B := by
  obtain ⟨V, K, h1, h⟩ := h
  exact (h1.get key).mono (fun r w' ⟨e, h'⟩ => ⟨e, V, K, h', h⟩)
theorem TT.next (h : TT w0 u x t base n P Q v B) (key : ByteArray) : Calls Try.prog 11 #[ptr t, .string key] u fun r w' => r = .returned (.tuple #[ag (((nxtP P key).map us).getD E0), .bool (nxtP P key).isSome, .int .i64 0]) ∧ TT w0 w' x t base n P Q v B := by
  obtain ⟨V, K, h1, h⟩ := h
  exact (h1.next key).mono (fun r w' ⟨e, h'⟩ => ⟨e, V, K, h', h⟩)
theorem TT.list (h : TT w0 u x t base n P Q v B) : Calls Try.prog 10 #[ptr t] u fun r w' => ∃ q, u.heap.size ≤ q ∧ r = .returned (.tuple #[.slice (some ⟨q, 0, none⟩) P.length n, .int .i64 0]) ∧ TT w0 w' x t base n P Q v ((q, (flat eE (tbl n P)).toArray, 27) :: B) := by
  obtain ⟨V, K, h1, h2, h3, h4, h5, h6⟩ := h
  refine h1.list.mono (fun r w' ⟨q, e1, e2, h'⟩ => ⟨q, e1, e2, V, _, h', h2.more (fun y hy => List.mem_cons_of_mem _ hy), h3, h4, h5, fun y hy => ?_⟩)
  rcases List.mem_cons.1 hy with rfl | hy
  · exact List.mem_cons_self ..
  · exact List.mem_cons_of_mem _ (h6 y hy)
theorem TT.read (h : TT w0 u x t base n P Q v B) {j : Nat} {e : En} (hj : (tbl n P)[j]? = some e) : Calls Try.prog 20 #[ptr x, .int .i64 ((base + j : Nat) : Int)] u fun r w' => r = .returned (.tuple #[ag e, .int .i64 0]) ∧ TT w0 w' x t base n P Q v B := by
  obtain ⟨V, K, h1, h⟩ := h
  exact (h1.read hj).mono (fun r w' ⟨e, h'⟩ => ⟨e, V, K, h', h⟩)
theorem TT.le (h : TT w0 u x t base n P Q v B) : P.length ≤ n ∧ Q.length ≤ n ∧ n ≤ 200 ∧ base + n ≤ 250 := by
  obtain ⟨V, K, h1, h2, h3, h4, h5, h6⟩ := h
  exact ⟨h1.le, h4, h5, h1.hb⟩
/-- a told list at the head -/
def TQ (w0 u : World) (x t base n : Nat) (P Q : List Pr) (v : Value) (q : Nat) (cs : Array Value) (B : List Bx) : Prop := ∃ V K, HasP w0 u x t base n 250 P ((q, cs, 27) :: K) V ∧ (∀ y ∈ K, y.1 ≠ q) ∧ w0.heap.size ≤ q ∧ DocK v Q K ∧ Asc Q ∧ Q.length ≤ n ∧ n ≤ 200 ∧ ∀ y ∈ B, y ∈ K
theorem TQ.below {q : Nat} {cs : Array Value} (h : TQ w0 u x t base n P Q v q cs B) (hb : Below u.heap.size u u') : TQ w0 u' x t base n P Q v q cs B := by
  obtain ⟨V, K, h1, h⟩ := h
  exact ⟨V, K, h1.below hb, h⟩
theorem TQ.bq {q : Nat} {cs : Array Value} (h : TQ w0 u x t base n P Q v q cs B) : Box u q cs 27 := by
  obtain ⟨V, K, h1, h⟩ := h
  exact h1.h.bK (q, cs, 27) (List.mem_cons_self ..)
theorem TQ.doc {q : Nat} {cs : Array Value} (h : TQ w0 u x t base n P Q v q cs B) : DocV u v Q := by
  obtain ⟨V, K, h1, _, _, h2, _⟩ := h
  exact h2.doc (fun y hy => h1.h.bK y (List.mem_cons_of_mem _ hy))
theorem TQ.tt {q : Nat} {cs : Array Value} (h : TQ w0 u x t base n P Q v q cs B) : TT w0 u x t base n P Q v B := by
  obtain ⟨V, K, h1, _, _, h2, h3, h4, h5, h6⟩ := h
  exact ⟨V, _, h1, h2.more (fun y hy => List.mem_cons_of_mem _ hy), h3, h4, h5, fun y hy => List.mem_cons_of_mem _ (h6 y hy)⟩
theorem TQ.put {q : Nat} {cs : Array Value} (h : TQ w0 u x t base n P Q v q cs B) (j : Nat) (z : Value) : TQ w0 (u.setCell ⟨q, j, none⟩ z) x t base n P Q v q (cs.setIfInBounds j z) B := by
  obtain ⟨V, K, h1, h0, h00, h⟩ := h
  have hk : tb t x base n ∈ K := by
    rcases List.mem_cons.1 h1.tk with e | e
    · have := congrArg (fun y : Bx => y.2.2) e; simp [tb] at this
    · exact e
  exact ⟨V, K, h1.keep (h1.h.put h0 h00 j z) (List.mem_cons_of_mem _ hk), h0, h00, h⟩
theorem TT.tq (h : TT w0 u x t base n P Q v B) : Calls Try.prog 10 #[ptr t] u fun r w' => ∃ q, r = .returned (.tuple #[.slice (some ⟨q, 0, none⟩) P.length n, .int .i64 0]) ∧ TQ w0 w' x t base n P Q v q (flat eE (tbl n P)).toArray B := by
  obtain ⟨V, K, h1, h2, h3, h4, h5, h6⟩ := h
  refine h1.list.mono (fun r w' ⟨q, e1, e2, h'⟩ => ⟨q, e2, V, K, h', fun y hy e => ?_, Nat.le_trans h1.h.low e1, h2, h3, h4, h5, h6⟩)
  have := h1.h.lt hy
  omega
/-- what is left of it -/
def Sp (cs : Array Value) (P : List Pr) (j : Nat) : Prop := ∀ i p, j ≤ i → P[i]? = some p → cs[i * 3]? = some (.bool true) ∧ cs[i * 3 + 1]? = some (.string p.1) ∧ cs[i * 3 + 2]? = some (.string p.2)
theorem Sp.next {cs : Array Value} {j : Nat} (h : Sp cs P j) (z : Value) : Sp (cs.setIfInBounds (j * 3 + 1) z) P (j + 1) := fun i p hi hp => by
  obtain ⟨a, b, c⟩ := h i p (by omega) hp
  exact ⟨by rw [Array.getElem?_setIfInBounds_ne (by omega)]; exact a, by rw [Array.getElem?_setIfInBounds_ne (by omega)]; exact b, by rw [Array.getElem?_setIfInBounds_ne (by omega)]; exact c⟩
theorem flat3_get : ∀ {l : List En} {i : Nat} {e : En}, l[i]? = some e → (flat eE l)[i * 3]? = some (.bool e.u) ∧ (flat eE l)[i * 3 + 1]? = some (.string e.k) ∧ (flat eE l)[i * 3 + 2]? = some (.string e.v)
  | [], i, e, h => by simp at h
  | y :: l, 0, e, h => by simp at h; subst h; exact ⟨rfl, rfl, rfl⟩
  | y :: l, i + 1, e, h => by
    have ih := flat3_get (l := l) (i := i) (e := e) (by simpa using h)
    rw [show flat eE (y :: l) = .bool y.u :: .string y.k :: .string y.v :: flat eE l from rfl, show (i + 1) * 3 = i * 3 + 1 + 1 + 1 by omega, show i * 3 + 1 + 1 + 1 + 1 = (i * 3 + 1) + 1 + 1 + 1 by omega, show i * 3 + 1 + 1 + 1 + 2 = (i * 3 + 2) + 1 + 1 + 1 by omega]
    simpa only [List.getElem?_cons_succ] using ih
theorem Sp.start (n : Nat) (P : List Pr) : Sp (flat eE (tbl n P)).toArray P 0 := fun i p _ hp => by
  have := flat3_get (tbl_lo (n := n) hp)
  simpa [us] using this
end
end Go.Proofs.Ytlbjalodjcajfaa
