/-
  A sched with the law's tasks: Add, Pick, Wake as one situation.
-/
import Derived.Test.YtjhhncbadkpbaaaGood
namespace Go.Proofs.Ytjhhncbadkpbaaa
open Go.RowKit

theorem nodup_le : ∀ (n : Nat) (L : List Nat), L.Nodup → (∀ x ∈ L, x < n) → L.length ≤ n
  | 0, L, _, h => by
    cases L with
    | nil => exact Nat.le_refl _
    | cons a l => exact absurd (h a (by simp)) (Nat.not_lt_zero _)
  | n + 1, L, hn, h => by
    have h1 := nodup_le n (L.erase n) (hn.erase n) (fun x hx => by
      have h2 := h x (List.mem_of_mem_erase hx)
      have h3 : x ≠ n := ((List.Nodup.mem_erase_iff hn).1 hx).1
      omega)
    by_cases hm : n ∈ L
    · rw [List.length_erase_of_mem hm] at h1
      omega
    · rw [List.erase_of_not_mem hm] at h1
      omega
structure TK where
  tg : Nat
  la : Option Addr
  lc : Nat
  xs : List Do3
structure Sit (w : World) (B s : Nat) (S : SS) (tb bb : Nat) (tv : Value) (told : List Bool) (bad : Bool) (K : List TK) : Prop where
  is : IsS w B s S
  good : Good S
  nw : S.now = none
  tw : TW w B tb bb tv told bad
  hlen : K.length = S.G.length
  tk : ∀ (i : Nat) (k : TK) (e : En), K[i]? = some k → S.E[i]? = some e → (e.st ≠ 3 → e.task = .iface 47 (ptr k.tg)) ∧ Box w k.tg (tkC s k.la k.xs.length k.lc e.n tb bb) 51 ∧ DoRow w B k.la k.xs ∧ B ≤ k.tg
  nd : ∀ (i j : Nat) (k l : TK), K[i]? = some k → K[j]? = some l → k.tg = l.tg → i = j
theorem IsS.len {w : World} {B s : Nat} {S : SS} (h : IsS w B s S) : S.E.length = S.G.length := by obtain ⟨vt, va, vl, h⟩ := h; exact h.ents.len
theorem IsS.ll {w : World} {B s : Nat} {S : SS} (h : IsS w B s S) : ∀ i ∈ S.L, i < S.G.length := by obtain ⟨vt, va, vl, h⟩ := h; exact h.ll
theorem Sit.Ll {w : World} {B s : Nat} {S : SS} {tb bb : Nat} {tv : Value} {told : List Bool} {bad : Bool} {K : List TK} (h : Sit w B s S tb bb tv told bad K) : S.L.length ≤ S.G.length := nodup_le _ _ h.good.nd h.is.ll
theorem Sit.kt {w w' : World} {B s : Nat} {S : SS} {tb bb : Nat} {tv : Value} {told : List Bool} {bad : Bool} {K : List TK} (h : Sit w B s S tb bb tv told bad K) (hb : Below B w w') (hk : Kt (fun _ => True) w w') : Sit w' B s S tb bb tv told bad K :=
  ⟨h.is.kt hk trivial trivial trivial, h.good, h.nw, h.tw.kt hk trivial trivial, h.hlen, fun i k e h1 h2 => by
    obtain ⟨a, b, c, d⟩ := h.tk i k e h1 h2
    exact ⟨a, hk _ _ _ b trivial, c.keep hb (fun _ _ x => hk _ _ _ x trivial), d⟩, h.nd⟩
theorem Sit.below {w w' : World} {B s : Nat} {S : SS} {tb bb : Nat} {tv : Value} {told : List Bool} {bad : Bool} {K : List TK} (h : Sit w B s S tb bb tv told bad K) (hb : Below w.heap.size w w') : Sit w' B s S tb bb tv told bad K := h.kt (hb.mono h.is.hB) (Kt.below hb)
theorem oth51 : Oth 51 := ⟨by decide, by decide, by decide⟩
theorem oth45 : Oth 45 := ⟨by decide, by decide, by decide⟩
theorem oth25 : Oth 25 := ⟨by decide, by decide, by decide⟩
theorem oth4 : Oth 4 := ⟨by decide, by decide, by decide⟩
theorem Sit.add {w : World} {B s : Nat} {S : SS} {tb bb : Nat} {tv : Value} {told : List Bool} {bad : Bool} {K : List TK} (h : Sit w B s S tb bb tv told bad K) (hf : (alv S.E S.G).length < 64) (hg : S.G.length < 1000) (k : TK) (hx : Box w k.tg (tkC s k.la k.xs.length k.lc 0 tb bb) 51) (hd : DoRow w B k.la k.xs) (hB : B ≤ k.tg) (hnew : ∀ l ∈ K, l.tg ≠ k.tg) :
    Calls Try.prog 9 #[ptr s, .iface 47 (ptr k.tg)] w fun r w' => ∃ g, r = .returned (.tuple #[.int .i64 ((S.G.length + 1 : Nat) : Int), .int .i64 0]) ∧ Sit w' B s (S.add g (.iface 47 (ptr k.tg))) tb bb tv told bad (K ++ [k]) ∧ Below B w w' ∧ Kt Oth w w' := by
  have hlen := h.is.len
  refine (add_at h.is hf hg (by have := h.Ll; omega) 47 (ptr k.tg)).mono ?_
  rintro r w' ⟨g, rfl, T⟩
  refine ⟨g, rfl, ⟨T.is, h.good.add hlen h.is.ll g _, h.nw, h.tw.kt T.kt oth25 oth4, by simp [SS.add, h.hlen], ?_, ?_⟩, T.bel, T.kt⟩
  · intro i k' e h1 h2
    by_cases hi : i < K.length
    · rw [List.getElem?_append_left hi] at h1
      have h2' : S.E[i]? = some e := by
        rw [← h2]
        show _ = (S.E ++ [_])[i]?
        rw [List.getElem?_append_left (by rw [hlen, ← h.hlen]; exact hi)]
      obtain ⟨a, b, c, d⟩ := h.tk i k' e h1 h2'
      exact ⟨a, T.kt _ _ _ b oth51, c.keep T.bel (fun _ _ x => T.kt _ _ _ x oth45), d⟩
    · have e1 : i = K.length := by have := (List.getElem?_eq_some_iff.1 h1).1; simp at this; omega
      subst e1
      rw [List.getElem?_append_right (Nat.le_refl _)] at h1
      simp at h1
      subst h1
      have h2' : e = ⟨.iface 47 (ptr k.tg), 1, 0⟩ := by
        change (S.E ++ [_])[K.length]? = some e at h2
        rw [List.getElem?_append_right (by rw [hlen, h.hlen]; exact Nat.le_refl _), hlen, h.hlen] at h2
        simp at h2
        exact h2.symm
      subst h2'
      exact ⟨fun _ => rfl, T.kt _ _ _ hx oth51, hd.keep T.bel (fun _ _ x => T.kt _ _ _ x oth45), hB⟩
  · have key : ∀ (i : Nat) (l : TK), (K ++ [k])[i]? = some l → (i < K.length ∧ K[i]? = some l) ∨ (i = K.length ∧ l = k) := fun i l hl => by
      by_cases hi : i < K.length
      · rw [List.getElem?_append_left hi] at hl
        exact .inl ⟨hi, hl⟩
      · have e1 : i = K.length := by have := (List.getElem?_eq_some_iff.1 hl).1; simp at this; omega
        subst e1
        rw [List.getElem?_append_right (Nat.le_refl _)] at hl
        simp at hl
        exact .inr ⟨rfl, hl.symm⟩
    intro i j a b h1 h2 h3
    rcases key i a h1 with ⟨_, h4⟩ | ⟨h4, rfl⟩
    · rcases key j b h2 with ⟨_, h5⟩ | ⟨h5, rfl⟩
      · exact h.nd i j a b h4 h5 h3
      · exact absurd h3 (hnew a (List.mem_of_getElem? h4))
    · rcases key j b h2 with ⟨_, h5⟩ | ⟨h5, rfl⟩
      · exact absurd h3.symm (hnew b (List.mem_of_getElem? h5))
      · omega
def SS.beg (S : SS) (p i : Nat) : SS := { S with L := S.L.eraseIdx (p % S.L.length), now := some i, wk := false }
def SS.pickTo (S : SS) (p i : Nat) (e : En) (d : Do3) : SS := ((S.beg p i).did d).fin i e (d.tell % 7).toNat
def SS.pickSt (S : SS) (p i : Nat) (d : Do3) : Nat := ((S.beg p i).did d).finSt (d.tell % 7).toNat
set_option maxHeartbeats 1000000 in
theorem Sit.pick {w : World} {B s : Nat} {S : SS} {tb bb : Nat} {tv : Value} {told : List Bool} {bad : Bool} {K : List TK} (h : Sit w B s S tb bb tv told bad K) (p : Nat) (hp : p < 18446744073709551616) (h0 : 0 < S.L.length) (hG : S.G.length < 1000) (htl : told.length < 100000) (i : Nat) (k : TK) (e : En) (hi : S.L[p % S.L.length]? = some i) (hk : K[i]? = some k) (he : S.E[i]? = some e) (hn : e.n < 100000) :
    Calls Try.prog 10 #[ptr s, .int .u64 (p : Int)] w fun r w' => r = .returned (.tuple #[.int .i64 ((i + 1 : Nat) : Int), .int .u8 (S.pickSt p i (doAt k.xs e.n) : Int), .bool true]) ∧
      ∃ tv', Sit w' B s (S.pickTo p i e (doAt k.xs e.n)) tb bb tv' (toldBy (S.beg p i) told (doAt k.xs e.n)) bad K ∧ Below B w w' ∧ KtF (fun q => (∃ l ∈ K, l.tg = q) ∨ q = tb ∨ tv.ownBlock = some q) Oth w w' ∧ ∀ q, tv'.ownBlock = some q → tv.ownBlock = some q ∨ w.heap.size ≤ q := by
  obtain ⟨e', he', h1⟩ := h.good.ln i (List.mem_of_getElem? hi)
  rw [he] at he'
  cases he'
  obtain ⟨ht, hb, hd, hBt⟩ := h.tk i k e hk he
  have ht' := ht (by omega)
  obtain ⟨task, st, n⟩ := e
  simp only at h1 ht' hb hn
  subst ht' h1
  have hiG : i < S.G.length := h.is.ll i (List.mem_of_getElem? hi)
  have hLl := h.Ll
  have gb : Good (S.beg p i) := h.good.begin hi
  have heB : (S.beg p i).E[i]? = some ⟨.iface 47 (ptr k.tg), 1, n⟩ := he
  obtain ⟨f1, f2, f3, f4, f5⟩ := did_facts (doAt k.xs n) heB rfl
  have hLb : (S.beg p i).L.length ≤ S.L.length := by
    show (S.L.eraseIdx _).length ≤ _
    exact List.length_eraseIdx_le _ _
  refine (pick_at h.is h.nw p hp h0 (by omega) i hi hiG 47 (ptr k.tg) n he (by omega) 54 (task_tsk k.tg)
    (fun st S2 w2 => st = ((doAt k.xs n).tell % 7).toNat ∧ S2 = (S.beg p i).did (doAt k.xs n) ∧ ∃ w1, To w B s (S.beg p i) w1 ∧ StepTo w1 B s ((S.beg p i).did (doAt k.xs n)) tb bb k.tg k.la k.xs.length k.lc n tv (toldBy (S.beg p i) told (doAt k.xs n)) bad w2)
    (fun w1 T1 => ?_)).mono ?_
  · have c := tStep_at (S := S.beg p i) T1.is i rfl (h.tw.kt T1.kt oth25 oth4) (T1.kt _ _ _ hb oth51) (hd.keep T1.bel (fun _ _ x => T1.kt _ _ _ x oth45)) rfl hBt (by omega) gb.lt (by show S.G.length < _; omega) (by omega) (by omega)
    refine c.mono ?_
    rintro r w2 ⟨rfl, hst⟩
    exact ⟨_, _, rfl, by omega, hst.is, hst.bel, f1, f2, f3, by omega, rfl, rfl, w1, T1, hst⟩
  · rintro r w' ⟨st, S2, w2, rfl, ⟨rfl, rfl, w1, T1, hst⟩, _, _, _, T3, hbel⟩
    refine ⟨rfl, ?_⟩
    obtain ⟨tv', htw', hwh⟩ := hst.tw
    have gd := (gb.did (doAt k.xs n))
    have gf : Good (S.pickTo p i ⟨.iface 47 (ptr k.tg), 1, n⟩ (doAt k.xs n)) := gd.fin f2 f3 _
    have fr : KtF (fun q => (∃ l ∈ K, l.tg = q) ∨ q = tb ∨ tv.ownBlock = some q) Oth w w' := by
      refine KtF.trans (KtF.of T1.kt) (KtF.trans (hst.kt.mono ?_ (fun _ h => h)) (KtF.of T3.kt))
      rintro q (rfl | h2 | h2)
      · exact .inl ⟨k, List.mem_of_getElem? hk, rfl⟩
      · exact .inr (.inl h2)
      · exact .inr (.inr h2)
    obtain ⟨v9, _, g2, g3, _⟩ := fin_at ((doAt k.xs n).tell % 7).toNat f3
    refine ⟨tv', ⟨T3.is, gf, g3, htw'.kt T3.kt oth25 oth4, ?_, ?_, h.nd⟩, hbel, fr, ?_⟩
    · rw [h.hlen]
      show S.G.length = ((SS.fin _ _ _ _).G).length
      rw [g2, f1]
      rfl
    · intro j k' e' hk' he'
      have hjE : j < S.E.length := by
        have h2 := (List.getElem?_eq_some_iff.1 hk').1
        rw [h.is.len, ← h.hlen]
        exact h2
      have hej : S.E[j]? = some (S.E[j]'hjE) := List.getElem?_eq_getElem hjE
      obtain ⟨a, b, c, d⟩ := h.tk j k' _ hk' hej
      generalize (S.E[j]'hjE) = ej at *
      obtain ⟨e1, q1, q2, q3, q4⟩ := did_ent (S := S.beg p i) (doAt k.xs n) hej
      obtain ⟨e2, r1, r2, r3, r4⟩ := fin_ent ((doAt k.xs n).tell % 7).toNat f3 q1
      have : e' = e2 := by
        change ((SS.fin _ _ _ _).E)[j]? = some e' at he'
        rw [r1] at he'
        cases he'
        rfl
      subst this
      refine ⟨fun h3 => ?_, ?_, ?_, d⟩
      · rw [r3 h3, q2]
        by_cases hji : j = i
        · subst hji
          rw [he] at hej
          cases hej
          rw [hk] at hk'
          cases hk'
          rfl
        · have h4 := r4 hji
          subst h4
          refine a (fun h5 => ?_)
          rcases q4 with h6 | ⟨h6, _⟩
          · omega
          · omega
      · by_cases hji : j = i
        · subst hji
          rw [he] at hej
          cases hej
          rw [hk] at hk'
          cases hk'
          rw [r2, if_pos rfl, q3]
          exact T3.kt _ _ _ hst.tk oth51
        · rw [r2, if_neg hji, Nat.add_zero, q3]
          have hne : k'.tg ≠ k.tg := fun h5 => hji (h.nd j i k' k hk' hk h5)
          have b1 := T1.kt _ _ _ b oth51
          have b2 := hst.kt _ _ _ b1 oth51 (fun h5 => by
            rcases h5 with h5 | h5 | h5
            · exact hne h5
            · have := (T1.kt _ _ _ h.tw.tbox oth25)
              exact (b1.ne this (by decide)) h5
            · obtain ⟨cs, hcs⟩ := ownsRow_box (ownsRow_kt h.tw.row T1.kt oth4) _ h5
              exact (b1.ne hcs (by decide)) rfl)
          exact T3.kt _ _ _ b2 oth51
      · have c1 := c.keep T1.bel (fun _ _ x => T1.kt _ _ _ x oth45)
        have c2 := c1.keep hst.bel (fun q cs x => hst.kt _ _ _ x oth45 (fun h5 => by
            rcases h5 with h5 | h5 | h5
            · exact (x.ne (T1.kt _ _ _ hb oth51) (by decide)) h5
            · exact (x.ne (T1.kt _ _ _ h.tw.tbox oth25) (by decide)) h5
            · obtain ⟨cs', hcs⟩ := ownsRow_box (ownsRow_kt h.tw.row T1.kt oth4) _ h5
              exact (x.ne hcs (by decide)) rfl))
        exact c2.keep T3.bel (fun _ _ x => T3.kt _ _ _ x oth45)
    · intro q hq
      rcases hwh q hq with h2 | h2
      · exact .inl h2
      · exact .inr (Nat.le_trans T1.bel.size h2)
theorem Sit.empty {w : World} {B s : Nat} {S : SS} {tb bb : Nat} {tv : Value} {told : List Bool} {bad : Bool} {K : List TK} (h : Sit w B s S tb bb tv told bad K) (h0 : S.L = []) (p : Int) :
    Calls Try.prog 10 #[ptr s, .int .u64 p] w fun r w' => r = .returned (.tuple #[.int .i64 0, .int .u8 0, .bool false]) ∧ w' = w := pick_empty h.is h.nw h0 p
theorem Sit.wake {w : World} {B s : Nat} {S : SS} {tb bb : Nat} {tv : Value} {told : List Bool} {bad : Bool} {K : List TK} (h : Sit w B s S tb bb tv told bad K) (hG : S.G.length < 1000) (id : Int) :
    Calls Try.prog 14 #[ptr s, .int .i64 id] w fun r w' => r = .returned (.bool (S.wake id).2) ∧ Sit w' B s (S.wake id).1 tb bb tv told bad K ∧ Below B w w' ∧ Kt Oth w w' := by
  have hLl := h.Ll
  refine (wake_at h.is id h.good.lt (by omega) (by omega)).mono ?_
  rintro r w' ⟨rfl, T⟩
  refine ⟨rfl, ?_, T.bel, T.kt⟩
  have key : ∀ (S' : SS), IsS w' B s S' → Good S' → S'.now = none → S'.G = S.G → (∀ (j : Nat) (e' : En), S'.E[j]? = some e' → ∃ e : En, S.E[j]? = some e ∧ e'.n = e.n ∧ e'.task = e.task ∧ (e'.st ≠ 3 → e.st ≠ 3)) → Sit w' B s S' tb bb tv told bad K := fun S' h1 h2 h3 h4 h5 =>
    ⟨h1, h2, h3, h.tw.kt T.kt oth25 oth4, by rw [h.hlen, h4], fun j k' e' q1 q2 => by
      obtain ⟨e, q3, q4, q5, q6⟩ := h5 j e' q2
      obtain ⟨a, b, c, d⟩ := h.tk j k' e q1 q3
      rw [q4, q5]
      exact ⟨fun q => a (q6 q), T.kt _ _ _ b oth51, c.keep T.bel (fun _ _ x => T.kt _ _ _ x oth45), d⟩, h.nd⟩
  have hT := T.is
  rcases wake_cases S id with q | ⟨j, e, h1, h2, _, q⟩ | ⟨j, h1, _, _, q⟩
  · rw [q] at hT ⊢
    exact key _ hT h.good h.nw rfl (fun j e' h => ⟨e', h, rfl, rfl, fun h => h⟩)
  · rw [q] at hT ⊢
    refine key _ hT (h.good.ready h1 h2) h.nw rfl (fun j' e' h3 => ?_)
    change (S.E.set j _)[j']? = some e' at h3
    by_cases e1 : j = j'
    · subst e1
      rw [List.getElem?_set_self (List.getElem?_eq_some_iff.1 h1).1] at h3
      cases h3
      exact ⟨e, h1, rfl, rfl, fun _ => by omega⟩
    · rw [List.getElem?_set_ne e1] at h3
      exact ⟨e', h3, rfl, rfl, fun h => h⟩
  · rw [h.nw] at h1
    cases h1
end Go.Proofs.Ytjhhncbadkpbaaa
