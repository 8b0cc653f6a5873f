/-
  A table over a transaction, as pairs by rising keys.
-/
import Derived.Test.YtlbjalodjcajfaaGreatPl2
import Derived.Test.YtlbjalodjcajfaaGreatPuh
namespace Go.Proofs.YtlbjalodjcajfaaGreat
open Go.RowKit Go.Maps
variable {mg : MG}
structure HasP (mg : MG) (w0 u : World) (x t base n sz : Nat) (P : List Pr) (K : List Bx) (V : List En) : Prop where
  h : HasT mg w0 u x 1 V K
  tk : tb t x base n ∈ K
  n1 : 1 ≤ n
  vl : V.length = sz
  hb : base + n ≤ sz
  sg : seg V base n = tbl n P
  asc : Asc P
  le : P.length ≤ n
section
variable {w0 u u' : World} {x t base n sz : Nat} {P : List Pr} {V : List En} {K : List Bx}
theorem HasP.below (h : HasP mg w0 u x t base n sz P K V) (hb : Below u.heap.size u u') : HasP mg w0 u' x t base n sz P K V := { h with h := h.h.below hb }
theorem HasP.to {P' : List Pr} {K' : List Bx} (h : HasP mg w0 u x t base n sz P K V) (h' : HasT mg w0 u' x 1 (lay V base (tbl n P')) K') (tk : tb t x base n ∈ K') (asc : Asc P') (le : P'.length ≤ n) : HasP mg w0 u' x t base n sz P' K' (lay V base (tbl n P')) where
  h := h'
  tk := tk
  n1 := h.n1
  vl := by rw [lay_len (by rw [tbl_len le, h.vl]; exact h.hb), h.vl]
  hb := h.hb
  sg := seg_lay (by have := h.hb; have := h.vl; omega) (tbl_len le)
  asc := asc
  le := le
theorem HasP.keep {K' : List Bx} (h : HasP mg w0 u x t base n sz P K V) (h' : HasT mg w0 u' x 1 V K') (tk : tb t x base n ∈ K') : HasP mg w0 u' x t base n sz P K' V := { h with h := h', tk := tk }
theorem HasP.hbv (h : HasP mg w0 u x t base n sz P K V) : base + n ≤ V.length := by rw [h.vl]; exact h.hb
theorem HasP.rgt (h : HasP mg w0 u x t base n sz P K V) : Rgt (seg V base n) = true := by rw [h.sg]; exact rgt_tbl h.asc
/-- what Put answers, and the pairs behind it -/
def putP (n : Nat) (P : List Pr) (key val : ByteArray) : Int × List Pr := if (getP P key).isSome = true ∨ P.length < n then (0, insP P key val) else (5, P)
theorem HasP.put (h : HasP mg w0 u x t base n sz P K V) (key val : ByteArray) : Calls Tryz.prog 7 #[ptr t, .string key, .string val] u fun r w' => r = .returned (.int .i64 (putP n P key val).1) ∧ ∃ V', HasP mg w0 w' x t base n sz (putP n P key val).2 K V' := by
  have hr := h.rgt
  rcases cut_case h.asc key with ⟨A, p, B', hc, hk, hB⟩ | ⟨A, B, hc, hn⟩
  · have hs := (getP_iff (P := P) (key := key)).2 ⟨p, by rw [hc.eq]; simp, hk⟩
    have e : putP n P key val = (0, insP P key val) := by unfold putP; rw [if_pos (.inl hs)]
    rw [e]
    have hh := hasK_yes (n := n) hc hk
    rw [← h.sg] at hh
    refine (put_has h.h h.tk h.n1 h.hbv hr key val hh).mono (fun r w' ⟨e1, h'⟩ => ⟨e1, ?_⟩)
    rw [h.sg, set_has hc, ← insP_has hc hk hB] at h'
    exact ⟨_, h.to h' h.tk (asc_ins h.asc val) (by rw [insP_len_has h.asc val hs]; exact h.le)⟩
  · have hs : (getP P key).isSome = false := by
      cases hg : (getP P key).isSome with
      | false => rfl
      | true => obtain ⟨p, hp, hk⟩ := getP_iff.1 hg; exact absurd hk (hn p hp)
    have hh := hasK_no (n := n) hc hn
    obtain ⟨z, hz, hzu⟩ := last_tbl h.le h.n1
    rw [← h.sg] at hh hz
    by_cases hlt : P.length < n
    · have e : putP n P key val = (0, insP P key val) := by unfold putP; rw [if_pos (.inr hlt)]
      rw [e]
      rw [decide_eq_false (by omega)] at hzu
      refine (put_new h.h h.tk h.n1 h.hbv hr key val hh hz hzu).mono (fun r w' ⟨e1, h'⟩ => ⟨e1, ?_⟩)
      rw [h.sg, ins_new hc hlt, ← insP_new hc (fun b hb => hn b (by rw [hc.eq]; exact List.mem_append_right _ hb))] at h'
      exact ⟨_, h.to h' h.tk (asc_ins h.asc val) (by rw [insP_len_no h.asc val hs]; omega)⟩
    · have e : putP n P key val = (5, P) := by unfold putP; rw [if_neg (by rw [hs]; simp; omega)]
      rw [e]
      rw [decide_eq_true (by have := h.le; omega)] at hzu
      exact (put_full h.h h.tk h.n1 h.hbv hr key val hh hz hzu).mono (fun r w' ⟨e1, h'⟩ => ⟨e1, V, h.keep h' h.tk⟩)
theorem HasP.remove (h : HasP mg w0 u x t base n sz P K V) (key : ByteArray) : Calls Tryz.prog 8 #[ptr t, .string key] u fun r w' => r = .returned (.tuple #[.bool (getP P key).isSome, .int .i64 0]) ∧ ∃ V', HasP mg w0 w' x t base n sz (delP P key) K V' := by
  have hr := h.rgt
  rcases cut_case h.asc key with ⟨A, p, B', hc, hk, hB⟩ | ⟨A, B, hc, hn⟩
  · have hs := (getP_iff (P := P) (key := key)).2 ⟨p, by rw [hc.eq]; simp, hk⟩
    rw [hs]
    have hh := hasK_yes (n := n) hc hk
    rw [← h.sg] at hh
    refine (remove_yes h.h h.tk h.n1 h.hbv hr key hh).mono (fun r w' ⟨e1, h'⟩ => ⟨e1, ?_⟩)
    rw [h.sg, del_has hc h.le, ← delP_has hc hk hB] at h'
    exact ⟨_, h.to h' h.tk (asc_del h.asc) (Nat.le_trans (List.length_filter_le ..) h.le)⟩
  · have hs : (getP P key).isSome = false := by
      cases hg : (getP P key).isSome with
      | false => rfl
      | true => obtain ⟨p, hp, hk⟩ := getP_iff.1 hg; exact absurd hk (hn p hp)
    rw [hs, delP_no hn]
    have hh := hasK_no (n := n) hc hn
    rw [← h.sg] at hh
    exact (remove_no h.h h.tk h.n1 h.hbv hr key hh).mono (fun r w' ⟨e1, h'⟩ => ⟨e1, V, h.keep h' h.tk⟩)
theorem val_tbl (ha : Asc P) (n : Nat) (key : ByteArray) : valOf (tbl n P) key = (getP P key).getD ⟨#[]⟩ ∧ hasK (tbl n P) key = (getP P key).isSome := by
  rcases cut_case ha key with ⟨A, p, B', hc, hk, hB⟩ | ⟨A, B, hc, hn⟩
  · have hh := hasK_yes (n := n) hc hk
    rw [getP_has hc hk, hh]
    unfold valOf
    rw [if_pos hh, cut_len hc n, tbl_lo (cut_get hc)]
    exact ⟨rfl, rfl⟩
  · have hh := hasK_no (n := n) hc hn
    rw [getP_no hn, hh]
    unfold valOf
    rw [if_neg (by rw [hh]; simp)]
    exact ⟨rfl, rfl⟩
theorem HasP.get (h : HasP mg w0 u x t base n sz P K V) (key : ByteArray) : Calls Tryz.prog 37 #[ptr t, .string key] u fun r w' => r = .returned (.tuple #[.string ((getP P key).getD ⟨#[]⟩), .bool (getP P key).isSome, .int .i64 0]) ∧ HasP mg w0 w' x t base n sz P K V := by
  obtain ⟨e1, e2⟩ := val_tbl h.asc n key
  have := get_at h.h h.tk h.n1 h.hbv h.rgt key
  rw [h.sg, e1, e2] at this
  exact this.mono (fun r w' ⟨e1, h'⟩ => ⟨e1, h.keep h' h.tk⟩)
theorem HasP.next (h : HasP mg w0 u x t base n sz P K V) (key : ByteArray) : Calls Tryz.prog 36 #[ptr t, .string key] u fun r w' => r = .returned (.tuple #[ag (((nxtP P key).map us).getD E0), .bool (nxtP P key).isSome, .int .i64 0]) ∧ HasP mg w0 w' x t base n sz P K V := by
  have := next_at h.h h.tk h.n1 h.hbv h.rgt key
  rw [h.sg, next_tbl, Option.isSome_map] at this
  exact this.mono (fun r w' ⟨e1, h'⟩ => ⟨e1, h.keep h' h.tk⟩)
theorem tw_every : ∀ P : List Pr, (P.takeWhile (fun p => !pNone p.1)).length = P.length
  | [] => rfl
  | p :: P => by rw [List.takeWhile_cons_of_pos (by rfl), List.length_cons, tw_every P, List.length_cons]
theorem HasP.list (h : HasP mg w0 u x t base n sz P K V) : Calls Tryz.prog 9 #[ptr t] u fun r w' => ∃ q, u.heap.size ≤ q ∧ r = .returned (.tuple #[.slice (some ⟨q, 0, none⟩) P.length n, .int .i64 0]) ∧ HasP mg w0 w' x t base n sz P ((q, (flat eE (tbl n P)).toArray, 28) :: K) V := by
  have := list_at h.h h.tk h.n1 h.hbv h.rgt
  rw [h.sg, pos_tbl, show (P.takeWhile (fun p => !pNone p.1)).length = P.length from tw_every P] at this
  exact this.mono (fun r w' ⟨q, h1, e1, h'⟩ => ⟨q, h1, e1, h.keep h' (List.mem_cons_of_mem _ h.tk)⟩)
theorem HasP.read (h : HasP mg w0 u x t base n sz P K V) {j : Nat} {e : En} (hj : (tbl n P)[j]? = some e) : Calls Tryz.prog 35 #[ptr x, .int .i64 ((base + j : Nat) : Int)] u fun r w' => r = .returned (.tuple #[ag e, .int .i64 0]) ∧ HasP mg w0 w' x t base n sz P K V := by
  have hjn : j < n := by have := (List.getElem?_eq_some_iff.1 hj).1; rw [tbl_len h.le] at this; exact this
  rw [← h.sg, seg_get hjn] at hj
  exact (h.h.read hj).mono (fun r w' ⟨e1, h'⟩ => ⟨e1, h.keep h' h.tk⟩)
end
end Go.Proofs.YtlbjalodjcajfaaGreat
