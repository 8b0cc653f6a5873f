/-
  SchedRuns: a Wake and a Pick of both.
-/
import Derived.Test.YtjhhncbadkpbaaaRun
namespace Go.Proofs.Ytjhhncbadkpbaaa
open Go.RowKit
def RunX (u : World) (B s g tb bb m N : Nat) : Prop := ∃ S R V tv told K P, Run u B s g tb bb S R V tv told K P ∧ S.G.length = m ∧ S.sum ≤ N ∧ told.length ≤ N
theorem RunX.below {u u' : World} {B s g tb bb m N : Nat} (h : RunX u B s g tb bb m N) (hb : Below u.heap.size u u') : RunX u' B s g tb bb m N := by
  obtain ⟨S, R, V, tv, told, K, P, h, r⟩ := h
  exact ⟨S, R, V, tv, told, K, P, h.below hb, r⟩
theorem RunX.hB {u : World} {B s g tb bb m N : Nat} (h : RunX u B s g tb bb m N) : B ≤ u.heap.size := by
  obtain ⟨S, R, V, tv, told, K, P, h, r⟩ := h
  exact h.sit.is.hB
theorem RunX.wake {w : World} {B s g tb bb m N : Nat} (h : RunX w B s g tb bb m N) (hm : m < 1000) (id : Int) :
    Calls Try.prog 14 #[ptr s, .int .i64 id] w fun r w1 => ∃ b, r = .returned (.bool b) ∧ Calls Try.prog 15 #[ptr g, .int .i64 id] w1 fun r' w2 => r' = .returned (.bool b) ∧ RunX w2 B s g tb bb m N ∧ Below B w w2 := by
  obtain ⟨S, R, V, tv, told, K, P, h, rfl, h2, h3⟩ := h
  refine (h.sit.wake hm id).mono ?_
  rintro r w1 ⟨rfl, hs, hb, hk⟩
  have rb1 := h.rbKeep hb (fun k cs t x hp _ => hk k cs t x hp)
  refine ⟨_, rfl, (rwake_at rb1 id (by rw [h.stl]; exact hm) (by have := h.sit.Ll; rw [h.lnl]; omega)).mono ?_⟩
  rintro r w2 ⟨rfl, hT, _⟩
  obtain ⟨hs2, V', rb2, ap2⟩ := sitKeep hs rb1 h.ap hT
  obtain ⟨a1, a2, a3, a4⟩ := h.al.wake id
  have hG : (S.wake id).1.G.length = S.G.length := by rw [← hs2.hlen, h.sit.hlen]
  refine ⟨by rw [a1], ⟨(S.wake id).1, (R.wake id).1, V', tv, told, K, P, ⟨hs2, rb2, a2, by rw [a3, a4]; exact h.sp, by rw [RS.wake_td]; exact h.td, h.kp, by rw [h.pl, hG], h.ok, ap2⟩, hG, ?_, h3⟩, hb.trans hT.bel⟩
  unfold SS.sum
  rw [a4]
  exact h2
theorem doAt_ok {P : List PV} (ok : ∀ p ∈ P, ∀ d ∈ p.xs, 0 ≤ d.tell ∧ d.tell < 7) {i : Nat} {p : PV} (hp : P[i]? = some p) (n : Nat) : 0 ≤ (doAt p.xs n).tell ∧ (doAt p.xs n).tell < 7 := by
  unfold doAt
  cases hd : p.xs[n]? with
  | none => exact ⟨by decide, by decide⟩
  | some d => exact ok p (List.mem_of_getElem? hp) d (List.mem_of_getElem? hd)
theorem RunX.pick {w : World} {B s g tb bb m N : Nat} (h : RunX w B s g tb bb m N) (hm : m < 1000) (hN : N < 10000) (p : Nat) (hp : p < 18446744073709551616) :
    Calls Try.prog 10 #[ptr s, .int .u64 (p : Int)] w fun r w1 => ∃ (Z Y : Nat) (b : Bool), Z < 1001 ∧ Y < 200 ∧ r = .returned (.tuple #[.int .i64 (Z : Int), .int .u8 (Y : Int), .bool b]) ∧ Calls Try.prog 16 #[ptr g, .int .u64 (p : Int)] w1 fun r' w2 => r' = .returned (.tuple #[.int .i64 (Z : Int), .int .i64 (Y : Int), .bool b]) ∧ RunX w2 B s g tb bb m (N + 1) ∧ Below B w w2 := by
  obtain ⟨S, R, V, tv, told, K, P, h, rfl, h2, h3⟩ := h
  by_cases hL : S.L = []
  · refine (h.sit.empty hL (p : Int)).mono ?_
    rintro r w1 ⟨rfl, rfl⟩
    refine ⟨0, 0, false, by omega, by omega, rfl, (rpick_empty h.rb (by rw [h.al.ln, hL]; rfl) p).mono ?_⟩
    rintro r w2 ⟨rfl, rfl⟩
    exact ⟨rfl, ⟨S, R, V, tv, told, K, P, h, rfl, by omega, by omega⟩, Below.refl _ _⟩
  · have h0 : 0 < S.L.length := List.length_pos_iff.2 hL
    have hLl := h.sit.Ll
    obtain ⟨i, hi⟩ : ∃ i, S.L[p % S.L.length]? = some i := ⟨_, List.getElem?_eq_getElem (Nat.mod_lt _ h0)⟩
    have hiG : i < S.G.length := h.sit.is.ll i (List.mem_of_getElem? hi)
    obtain ⟨e, he, h1⟩ := h.sit.good.ln i (List.mem_of_getElem? hi)
    obtain ⟨k, hk⟩ : ∃ k, K[i]? = some k := ⟨_, List.getElem?_eq_getElem (by rw [h.sit.hlen]; exact hiG)⟩
    obtain ⟨q, hq⟩ : ∃ q, P[i]? = some q := ⟨_, List.getElem?_eq_getElem (by rw [h.pl]; exact hiG)⟩
    have hxs := h.kp i k q hk hq
    have hen : e.n ≤ S.sum := le_sumS he
    refine (h.sit.pick p hp h0 hm (by omega) i k e hi hk he (by omega)).mono ?_
    rintro r w1 ⟨rfl, tv', hs, hb, hkt, htv⟩
    have rb1 := h.rbKeep hb hkt
    have ap1 : ∀ k, V.vt.ownBlock = some k → tv'.ownBlock ≠ some k ∧ k ≠ bb := fun b e1 => ⟨fun e2 => by
      rcases htv b e2 with h4 | h4
      · exact (h.ap b e1).1 h4
      · have := (h.rb.rt.lt b e1).2
        omega, (h.ap b e1).2⟩
    obtain ⟨d0, d7⟩ := doAt_ok h.ok hq e.n
    have A := h.al.pick h.td h.sp p i e he h1 (doAt q.xs e.n) d0 d7
    rw [hxs] at hs ⊢
    have hst : S.pickSt p i (doAt q.xs e.n) < 200 := by
      obtain ⟨e', he', hs'⟩ := pick_stat (p := p) (doAt q.xs e.n) he h1
      rw [← hs']
      exact hs.good.lt e' (List.mem_of_getElem? he')
    refine ⟨i + 1, S.pickSt p i (doAt q.xs e.n), true, by omega, hst, rfl, (rpick_to rb1 p i hp (by rw [h.lnl]; exact h0) (by rw [h.lnl]; omega) (by rw [h.lnl, h.al.ln, List.getElem?_map, hi]; rfl) (by rw [h.stl]; exact hiG) (by rw [h.spl, h.stl]) (by rw [h.pl, h.stl]) (by rw [h.stl]; exact hm) (by rw [h.td]; omega) q hq e.n (by rw [h.sp, List.getElem?_map, he]; rfl) (by omega)).mono ?_⟩
    rintro r w2 ⟨rfl, hT⟩
    obtain ⟨hs2, V', rb2, ap2⟩ := sitKeep hs rb1 ap1 hT
    have hG : (S.pickTo p i e (doAt q.xs e.n)).G.length = S.G.length := by rw [pick_G _ he h1]
    refine ⟨by rw [A.2.2.1], ⟨S.pickTo p i e (doAt q.xs e.n), _, V', tv', _, K, P, ⟨hs2, rb2, A.1, A.2.1, A.2.2.2, h.kp, by rw [h.pl, hG], h.ok, ap2⟩, hG, ?_, ?_⟩, hb.trans hT.bel⟩
    · rw [pick_sum _ he h1]; omega
    · have := toldBy_len (S.beg p i) told (doAt q.xs e.n); omega
end Go.Proofs.Ytjhhncbadkpbaaa
