/-
  Pick.
-/
import Derived.Test.YtjhhncbadkpbaaaStep
namespace Go.Proofs.Ytjhhncbadkpbaaa
open Go.RowKit

theorem To.drew {w w' : World} {B s : Nat} {S : SS} (h : To w B s S w') (n : Nat) : To w B s S (w'.drewN n) :=
  ⟨h.is.kt (p := fun _ => True) (fun _ _ _ x _ => x) trivial trivial trivial, ⟨h.bel.os, h.bel.tape, h.bel.output, h.bel.size, h.bel.block⟩, fun i cs t x hp => h.kt i cs t x hp⟩
theorem Below.drewN {B : Nat} {a w : World} (h : Below B a w) (q : Nat) : Below B a (w.drewN q) := ⟨h.os, h.tape, h.output, h.size, h.block⟩
theorem neqE_some (g : Nat) (w : World) : (binOp .neq 61 (.pointer (some ⟨g, 0, none⟩)) (.pointer none)).run Try.prog w = .ok (.bool true) w := by
  have h : ∀ d : Nat, (Op.equalIn (d + 1) 61 (.pointer (some ⟨g, 0, none⟩)) (.pointer none)).run Try.prog w = .ok false w := fun d => by
    simp [Op.equalIn, run_underlying pointE]
  simp only [binOp]
  simp [Op.equal, Op.maxDepth, h]
theorem neqE_none (w : World) : (binOp .neq 61 (.pointer none) (.pointer none)).run Try.prog w = .ok (.bool false) w := by
  have h : ∀ d : Nat, (Op.equalIn (d + 1) 61 (.pointer none) (.pointer none)).run Try.prog w = .ok true w := fun d => by
    simp [Op.equalIn, run_underlying pointE]
  simp only [binOp]
  simp [Op.equal, Op.maxDepth, h]
set_option maxRecDepth 20000 in
/-- a Pick within a Step -/
theorem pick_busy {w : World} {B s : Nat} {S : SS} (h : IsS w B s S) (i : Nat) (hn : S.now = some i) (p : Int) : Calls Try.prog 10 #[ptr s, .int .u64 p] w fun r w' => r = .returned (.tuple #[.int .i64 0, .int .u8 0, .bool false]) ∧ w' = w := by
  obtain ⟨vt, va, vl, h⟩ := h
  have c := isMade_at h.rows.box
  have c4 : w.cell? ⟨s, 4, none⟩ = some (ptr (S.G.getD i 0)) := by
    have := h.rows.box.cell 4
    unfold SS.nv at this
    rw [hn] at this
    exact this
  generalize S.G.getD i 0 = q at *
  have hq := neqE_some q
  clear h hn
  unfold ptr at *
  go_enter Try.func10, Try.ntmps10
  go_wp2_with (go_at_call 23; refine c.mono ?_; rintro e w' ⟨rfl, rfl⟩)
  exact bodyPost_ret (v := .tuple #[.int .i64 0, .int .u8 0, .bool false]) (by simp [results, Try.results10, go_sem]) rfl ⟨rfl, rfl⟩
set_option maxRecDepth 20000 in
theorem pick_empty {w : World} {B s : Nat} {S : SS} (h : IsS w B s S) (hn : S.now = none) (hL : S.L = []) (p : Int) : Calls Try.prog 10 #[ptr s, .int .u64 p] w fun r w' => r = .returned (.tuple #[.int .i64 0, .int .u8 0, .bool false]) ∧ w' = w := by
  obtain ⟨vt, va, vl, h⟩ := h
  have c := isMade_at h.rows.box
  have c4 : w.cell? ⟨s, 4, none⟩ = some (.pointer none) := by
    have := h.rows.box.cell 4
    unfold SS.nv at this
    rw [hn] at this
    exact this
  have hq := neqE_none
  obtain ⟨a, cap, hvl⟩ := ownsRow_slice h.rows.rl
  rw [hL] at hvl
  have c3 : w.cell? ⟨s, 3, none⟩ = some (.slice a 0 cap) := by rw [← show vl = .slice a 0 cap from hvl]; exact h.rows.box.cell 3
  clear h hn hvl
  unfold ptr at *
  go_enter Try.func10, Try.ntmps10
  go_wp2_with (go_at_call 23; refine c.mono ?_; rintro e w' ⟨rfl, rfl⟩)
  exact bodyPost_ret (v := .tuple #[.int .i64 0, .int .u8 0, .bool false]) (by simp [results, Try.results10, go_sem]) rfl ⟨rfl, rfl⟩

def SS.finSt (S : SS) (st : Nat) : Nat := if st = 1 ∨ (st = 2 ∧ S.wk = true) then 1 else if st = 2 then 2 else 3
theorem fin_at {S : SS} {i : Nat} {e : En} (st : Nat) (h : S.E[i]? = some e) : ∃ v, (S.fin i e st).E[i]? = some ⟨v, S.finSt st, e.n + 1⟩ ∧ (S.fin i e st).G = S.G ∧ (S.fin i e st).now = none ∧ (S.fin i e st).wk = S.wk := by
  have hl := (List.getElem?_eq_some_iff.1 h).1
  unfold SS.fin SS.finSt
  split
  · exact ⟨_, List.getElem?_set_self hl, rfl, rfl, rfl⟩
  · split
    · exact ⟨_, List.getElem?_set_self hl, rfl, rfl, rfl⟩
    · exact ⟨_, List.getElem?_set_self hl, rfl, rfl, rfl⟩
set_option maxRecDepth 20000 in
set_option maxHeartbeats 2000000 in
theorem pick_at {w : World} {B s : Nat} {S : SS} (h : IsS w B s S) (hnow : S.now = none) (p : Nat) (hp : p < 18446744073709551616) (h0 : 0 < S.L.length) (hL : S.L.length < 100000) (i : Nat) (hk : S.L[p % S.L.length]? = some i) (hi : i < S.G.length)
    (t : TypeId) (x : Value) (n : Nat) (he : S.E[i]? = some ⟨.iface t x, 1, n⟩) (hn : n < 1000000) (f : Nat) (hf : Tsk t x f)
    (R : Nat → SS → World → Prop)
    (hS : ∀ w1, To w B s { S with L := S.L.eraseIdx (p % S.L.length), now := some i, wk := false } w1 → Calls Try.prog f #[x] w1 fun r w2 => ∃ st S2, r = .returned (.int .u8 ((st : Nat) : Int)) ∧ st < 200 ∧ IsS w2 B s S2 ∧ Below B w1 w2 ∧ S2.G = S.G ∧ S2.now = some i ∧ S2.E[i]? = some ⟨.iface t x, 1, n⟩ ∧ S2.L.length < 1000000 ∧ R st S2 w2) :
    Calls Try.prog 10 #[ptr s, .int .u64 (p : Int)] w fun r w' => ∃ st S2 w2, r = .returned (.tuple #[.int .i64 ((i + 1 : Nat) : Int), .int .u8 (S2.finSt st : Int), .bool true]) ∧ R st S2 w2 ∧ S2.G = S.G ∧ S2.now = some i ∧ S2.E[i]? = some ⟨.iface t x, 1, n⟩ ∧ To w2 B s (S2.fin i ⟨.iface t x, 1, n⟩ st) w' ∧ Below B w w' := by
  have hkl : p % S.L.length < S.L.length := Nat.mod_lt _ h0
  have ct := takeOut_at h (p % S.L.length) i hk hi (by omega)
  have HS : Hid (∀ w0, To w B s { S with L := S.L.eraseIdx (p % S.L.length) } w0 → Calls Try.prog 26 #[ptr s, ptr S.G[i]] w0 fun r w' => r = .returned (.tuple #[]) ∧ ∃ st S2 w2, IsS w2 B s S2 ∧ R st S2 w2 ∧ S2.G = S.G ∧ S2.now = some i ∧ S2.E[i]? = some ⟨.iface t x, 1, n⟩ ∧ To w2 B s (S2.fin i ⟨.iface t x, 1, n⟩ st) w' ∧ Below B w0 w') := fun w0 T0 =>
    step_at (S := { S with L := S.L.eraseIdx (p % S.L.length) }) T0.is i t x n he hi hn f hf R (fun w1 T1 => hS w1 (To.trans T0 T1))
  obtain ⟨vt, va, vl, h⟩ := h
  have c := isMade_at h.rows.box
  have c4 : w.cell? ⟨s, 4, none⟩ = some (.pointer none) := by
    have := h.rows.box.cell 4
    unfold SS.nv at this
    rw [hnow] at this
    exact this
  have hq := neqE_none
  obtain ⟨a, cap, hvl⟩ := ownsRow_slice h.rows.rl
  rw [List.length_map] at hvl
  have c3 : w.cell? ⟨s, 3, none⟩ = some (.slice a S.L.length cap) := by rw [← hvl]; exact h.rows.box.cell 3
  have hkz : ((p % S.L.length : Nat) : Int) = (p : Int) % (S.L.length : Int) := by omega
  rw [hkz] at ct
  have Hkz : Hid (((p % S.L.length : Nat) : Int) = (p : Int) % (S.L.length : Int)) := hkz
  have hz1 : (0 : Int) ≤ (p : Int) % (S.L.length : Int) := by omega
  have hz2 : (p : Int) % (S.L.length : Int) < (S.L.length : Int) := by omega
  obtain ⟨S0, hS0⟩ : ∃ S0 : SS, S0 = { S with L := S.L.eraseIdx (p % S.L.length) } := ⟨_, rfl⟩
  rw [← hS0] at ct HS
  clear h hnow hvl hS hkz hS0 hkl hk
  generalize hNN : S.L.length = N at *
  have hp0 : (0 : Int) ≤ (p : Int) := by omega
  have hN0 : (0 : Int) < (N : Int) := by omega
  have hN1 : (N : Int) < 100000 := by omega
  have HL : Hid (S.L.length = N) := hNN
  clear hNN Hkz hp
  generalize (p : Int) = P at *
  obtain ⟨K, hPK⟩ : ∃ K, P % (N : Int) = K := ⟨_, rfl⟩
  rw [hPK] at ct hz1 hz2
  have hnz : ¬ ((N : Int) = 0) := by omega
  have HK : Hid (wrap64 (P.tmod (N : Int)) = K) := by
    show wrap64 (P.tmod (N : Int)) = K
    rw [Int.tmod_eq_emod_of_nonneg hp0, hPK]
    unfold wrap64
    omega
  clear hPK hz1 hz2 hp0 hN1
  generalize hq0 : S.G[i] = q at *
  have HQ : Hid (S.G[i] = q) := hq0
  clear hq0
  unfold ptr at *
  go_enter Try.func10, Try.ntmps10
  go_wp2_with fail
  refine Calls.mono c ?_
  rintro r wx ⟨rfl, hwx⟩
  subst wx
  clear c
  go_wp2_with fail
  rw [show wrap64 (P.tmod (N : Int)) = K from HK.out]
  refine Calls.mono ct ?_
  rintro r w0 ⟨rfl, T0⟩
  have cS := HS.out w0 T0
  have HB0 : Hid (Below B w w0) := T0.bel
  clear ct HS T0 c3 c4
  go_wp2_with fail
  refine Calls.mono cS ?_
  rintro r w9 ⟨rfl, st, S2, w2, I2, hR, hG2, hn2, he2, T9, b9⟩
  obtain ⟨v9, f1, f2, _, _⟩ := fin_at st he2
  have HF : Hid (R st S2 w2 ∧ S2.G = S.G ∧ S2.now = some i ∧ S2.E[i]? = some ⟨.iface t x, 1, n⟩ ∧ To w2 B s (S2.fin i ⟨.iface t x, 1, n⟩ st) w9 ∧ Below B w w9) := ⟨hR, hG2, hn2, he2, T9, HB0.out.trans b9⟩
  obtain ⟨vt9, va9, vl9, h9⟩ := T9.is
  have hi9 : i < (S2.fin i ⟨.iface t x, 1, n⟩ st).G.length := by rw [f2, hG2]; exact hi
  have q9 : (S2.fin i ⟨.iface t x, 1, n⟩ st).G[i] = q := by rw [← HQ.out]; simp [f2, hG2]
  have d0 := h9.cells i hi9 _ f1
  rw [q9] at d0
  obtain ⟨d0, _, d2, _⟩ := d0
  have hfs : S2.finSt st = 1 ∨ S2.finSt st = 2 ∨ S2.finSt st = 3 := by
    unfold SS.finSt
    split
    · exact .inl rfl
    · split
      · exact .inr (.inl rfl)
      · exact .inr (.inr rfl)
  have HV : Hid (∃ F, F = S2.finSt st) := ⟨_, rfl⟩
  change w9.cell? ⟨q, 2, none⟩ = some (.int .u8 (S2.finSt st : Int)) at d2
  clear cS h9 T9 b9 hR hG2 hn2 he2 f1 f2 q9 I2
  obtain ⟨z, hz⟩ : ∃ z : Int, z = ((i + 1 : Nat) : Int) := ⟨_, rfl⟩
  obtain ⟨y, hy⟩ : ∃ y : Int, y = (S2.finSt st : Int) := ⟨_, rfl⟩
  rw [← hz] at d0
  rw [← hy] at d2
  have HZ : Hid (z = ((i + 1 : Nat) : Int)) := hz
  have HY : Hid (y = (S2.finSt st : Int)) := hy
  clear hz hy hfs HV
  go_wp2_with fail
  go_quiet (fail)
  go_wp2
  have hT := HF.out
  refine bodyPost_ret (v := .tuple #[.int .i64 z, .int .u8 y, .bool true]) ?_ rfl ⟨st, S2, w2, by rw [HZ.out, HY.out], hT.1, hT.2.1, hT.2.2.1, hT.2.2.2.1, hT.2.2.2.2.1.drew _, Below.drewN hT.2.2.2.2.2 _⟩
  simp [results, Try.results10, go_sem]
end Go.Proofs.Ytjhhncbadkpbaaa
