/-
  body: what stands behind the stamps of a head.
-/
import Derived.Test.YtghcmlkgpedkkaaZeros
import Derived.Test.YtghcmlkgpedkkaaSums
namespace Go.Proofs.Ytghcmlkgpedkkaa
open Go.RowKit

theorem restB_length (es : List (Nat × List UInt8)) (h : ∀ e ∈ es, e.2.length = 64) (hn : es.length ≤ 32) : (restB es).length = 4026 := by
  unfold restB
  rw [List.length_append, entsB_length es h, nought_length]
  omega
theorem wpList_append_ran {w : World} {ops : Array Oper} {rest : List Oper} {o : Oper} {a : Act} {Q : Exit → Act → World → Prop} (hgd : o.guard = none) (sl x : Operand) (t u : TypeId)
    (ho : o.op = .call { callee := .builtin .append, args := #[sl, x], argTypes := #[t, u] }) (v s v' : Value) (W : World) (hs : a.eval sl = v) (hx : a.eval x = s)
    (hrun : ∀ ty, (Builtin.append_ #[t, u] ty #[v, s]).run Try.prog w = .ok v' W) (h : wpList Try.prog ops Q rest (a.put o.dst v') W) : wpList Try.prog ops Q (o :: rest) a w := by
  refine wpList_plain hgd fun K hK => ?_
  unfold Oper.wp execOp
  simp only [ho, resolve, invoke, builtin, Sem.run_bind, Sem.run_pure, Result.andThen_ok, List.map_toArray, List.map_cons, List.map_nil, hs, hx, hrun]
  exact hK _ _ h


def bodyB (es : List (Nat × List UInt8)) : List UInt8 := toBE 2 es.length ++ toBE 4 (crc 0 (restB es)) ++ restB es
theorem bodyB_length (es : List (Nat × List UInt8)) (h : ∀ e ∈ es, e.2.length = 64) (hn : es.length ≤ 32) : (bodyB es).length = 4032 := by
  unfold bodyB
  simp [toBE_length, restB_length es h hn]

set_option maxRecDepth 100000 in
set_option maxHeartbeats 4000000 in
theorem body_at (a : Option Addr) (n cap : Nat) (es : List (Nat × List UInt8)) (w : World) (hl : es.length = n) (h0 : 0 < n) (hn : n ≤ 32) (hE : Ents w a es) (hb : ∀ e ∈ es, e.1 ≤ 511) :
    Calls Try.prog 50 #[.slice a n cap] w fun r w' => ∃ v, r = .returned v ∧ w'.ownsRow w.heap.size 5 1 v 4032 (bcs (bodyB es)) ∧ Below w.heap.size w w' := by
  have h64 : ∀ e ∈ es, e.2.length = 64 := fun e he => by
    obtain ⟨j, hj, rfl⟩ := List.getElem_of_mem he
    obtain ⟨b, o, _, hc⟩ := hE (by omega)
    obtain ⟨_, _, _, _, _, _, _, q, _⟩ := hc j hj
    exact q
  have hlen : ∀ k, k ≤ n → (entsB (es.take k)).length = k * 66 := fun k hk => by
    rw [entsB_length _ (fun e he => h64 e (List.mem_of_mem_take he)), List.length_take, hl, Nat.min_eq_left hk]
  obtain ⟨b, o, rfl, hc⟩ := hE (by omega)
  have HE : Hid (∀ j (h : j < es.length), EntAt w b (o + j * 2) es[j]) := hc
  have HB : Hid (∀ e ∈ es, e.1 ≤ 511) := hb
  have HL : Hid _ := hl
  have H64 : Hid (∀ e ∈ es, e.2.length = 64) := h64
  have HLen : Hid _ := hlen
  clear hE hc hb hl h64 hlen
  go_enter Try.func50, Try.ntmps50
  go_wp2_with fail
  go_loopw [3, 9] (fun v i wr => ∃ k : Nat, k ≤ n ∧ i = .int .i64 k ∧ wr.ownsRow w.heap.size 5 1 v (k * 66) (bcs (entsB (es.take k))) ∧ Below w.heap.size w wr) (fun _ i _ => n - (intOf i).toNat)
  case atStart => exact ⟨0, Nat.zero_le _, rfl, World.ownsRow_nil _ _ _ _, Below.refl _ _⟩
  case round =>
    obtain ⟨k, hk, rfl, hown, hB⟩ := hrel
    by_cases hlt : k < n
    · have hlt' : k < es.length := by rw [HL.out]; exact hlt
      obtain ⟨q1, g, q, c, q2, q3, q4, q5, q6⟩ := (HE.out k hlt').below hB
      have hbk : es[k].1 ≤ 511 := HB.out _ (List.getElem_mem hlt')
      have ht := entsB_take es k hlt'
      have hlk := HLen.out k hk
      obtain ⟨av, cv, rfl, hlv, hcv1, hcv2, hrd, _⟩ := owns_rd hown
      generalize es[k] = p at q1 q2 q5 q6 hbk ht
      obtain ⟨pb, ph⟩ := p
      dsimp only at q1 q2 q5 q6 hbk ht
      have bx := Box.new wr #[.int .i64 (pb : Int), .slice (some ⟨g, q, none⟩) 64 c] 62
      have x0 := bx.cell 0
      have x1 := bx.cell 1
      have B1 := hB.alloc hB.size (.cells #[.int .i64 (pb : Int), .slice (some ⟨g, q, none⟩) 64 c] 62)
      have hrd1 := hrd.below ((Below.refl wr.heap.size wr).alloc (Nat.le_refl _) (.cells #[.int .i64 (pb : Int), .slice (some ⟨g, q, none⟩) 64 c] 62)) (Nat.le_refl _)
      have q61 := q6.below ((Below.refl wr.heap.size wr).alloc (Nat.le_refl _) (.cells #[.int .i64 (pb : Int), .slice (some ⟨g, q, none⟩) 64 c] 62)) (Nat.le_refl _)
      have hwr : IntKind.u16.wrap (pb : Int) = (pb : Int) := wrap_u16_in pb (by omega)
      have hki : (k : Int) < n := by omega
      obtain ⟨U, hU⟩ : ∃ U, U = wr.alloc (.cells #[.int .i64 (pb : Int), .slice (some ⟨g, q, none⟩) 64 c] 62) := ⟨_, rfl⟩
      have sU : wr.heap.size ≤ U.heap.size := by rw [hU]; simp
      have c1 := add16_at U.heap.size cv (k * 66) av (entsB (es.take k)) pb (pb : Int) U rfl rfl hlk (by omega) (by omega) (by rw [hU]; exact hrd1)
      have y0 : U.cell? ⟨wr.heap.size, 1, none⟩ = some (.slice (some ⟨g, q, none⟩) 64 c) := by rw [hU]; exact x1
      have hsz : wr.heap.size < U.heap.size := by rw [hU]; simp
      have HU : Hid _ := hU
      rw [← hU] at B1 q61
      clear hU hrd1 hrd q6
      go_wp2_with fail
      rw [← HU.out]
      refine c1.mono ?_
      rintro e w1 ⟨rfl, ho1, hb1⟩
      have hl1 : (entsB (es.take k) ++ toBE 2 pb).length = k * 66 + 2 := by rw [List.length_append, hlk, toBE_length]
      have hown1 := Own.owns (B := w.heap.size) ho1 (by have := hB.size; omega) (by rw [hl1]; unfold maxLen; omega)
      rw [hl1] at hown1
      have z0 := (hb1.cell (p := ⟨wr.heap.size, 1, none⟩) hsz).trans y0
      have q62 := q61.below hb1 (Nat.le_refl _)
      have B2 := B1.trans (hb1.mono B1.size)
      have hsw : w.heap.size ≤ w1.heap.size := B2.size
      clear c1 x0 x1 y0 bx q61 q1 q2
      go_wp2_with (at_builtin; refine wpList_append_bytes rfl _ _ rfl w.heap.size _ (k * 66 + 2) _ rfl hown1 (some ⟨g, q, none⟩) 64 c ph rfl q5 q62 (fun h => by cases h) (by omega) hsw ?_)
      intro v' w2 hown2 hg2
      have B3 := B2.grown hg2 hsw (fun j e => by cases e; show w.heap.size ≤ U.heap.size; have := hB.size; omega)
      rw [← bcs_append, ← ht] at hown2
      have e66 : k * 66 + 2 + 64 = (k + 1) * 66 := by omega
      rw [e66] at hown2
      have HT : Hid _ := ht
      have HLK : Hid _ := hlk
      clear ht hlk hl1 hown1 hg2 hown B2 B1 hB
      go_wp2
      go_roundw
      case rel => exact ⟨k + 1, by omega, by go_num, hown2, B3⟩
      case measure => simp [intOf]; omega
    · obtain rfl : k = n := by omega
      have hall : es.take k = es := List.take_of_length_le (by rw [HL.out]; omega)
      rw [hall] at hown
      have hll := HLen.out k (Nat.le_refl _)
      rw [hall] at hll
      have hrl := restB_length es H64.out (by rw [HL.out]; exact hn)
      have hrest : restB es = entsB es ++ nought (4026 - k * 66) := by unfold restB; rw [HL.out]
      obtain ⟨m, hm⟩ : ∃ m, m = 4026 - k * 66 := ⟨_, rfl⟩
      rw [← hm] at hrest
      have hmk : k * 66 + m = 4026 := by omega
      have hmi : (4026 : Int) - ((k * 66 : Nat) : Int) = (m : Int) := by omega
      obtain ⟨av, cv, rfl⟩ := owns_shape hown
      obtain ⟨v1, w1, hrun, hown1, hg1⟩ := run_append_zeros wr w.heap.size 31 _ (k * 66) m (entsB es) (by omega) (by omega) hown (by omega) hB.size
      have hrun' : ∀ ty, (Builtin.append_ #[31, 3] ty #[.slice av (k * 66) cv, .int .i64 (m : Int)]).run Try.prog wr = .ok v1 w1 := fun ty => hrun
      have B1 := hB.grown hg1 hB.size (fun j e => (owns_block hown j e).1)
      rw [hmk, ← hrest] at hown1
      have hbody : Hid (bodyB es = toBE 2 k ++ toBE 4 (crc 0 (restB es)) ++ restB es) := by show _ = _; unfold bodyB; rw [HL.out]
      obtain ⟨K66, hK66⟩ : ∃ x, x = k * 66 := ⟨_, rfl⟩
      rw [← hK66] at hmi hrun'
      have hK2 : K66 ≤ 4026 := by omega
      clear hown hll hmk hrest hm hrun hg1 hall hB HLen
      generalize restB es = R at hown1 hrl hbody
      rw [← hK66]
      clear hK66
      obtain ⟨av1, cv1, rfl, hlv1, hcv1, hcv2, hrd1, _⟩ := owns_rd hown1
      have hw16 : IntKind.u16.wrap (k : Int) = (k : Int) := wrap_u16_in k (by omega)
      go_wp2_with (at_builtin; refine wpList_append_ran rfl _ _ 31 3 rfl _ _ _ w1 rfl rfl hrun' ?_)
      refine (add16_at w1.heap.size 0 0 none [] k (k : Int) w1 rfl rfl rfl (by omega) (by omega) (Rd.nil _ _)).mono ?_
      rintro e w2 ⟨rfl, ho2, hb2⟩
      have hrd2 := hrd1.below hb2 (Nat.le_refl _)
      have B2 := B1.trans (hb2.mono B1.size)
      go_wp2_with fail
      refine (crc_at cv1 4026 av1 R w2 hrl (by omega) hrd2).mono ?_
      rintro e w3 ⟨rfl, hb3⟩
      have ho3 := ho2.below hb3 ho2.lt
      have hrd3 := hrd2.below hb3 (Nat.le_refl _)
      have B3 := B2.trans (hb3.mono B2.size)
      obtain ⟨CR, hCR⟩ : ∃ c, c = crc 0 R := ⟨_, rfl⟩
      have hCR4 : CR < 4294967296 := by rw [hCR]; exact crc_lt 0 R
      rw [← hCR] at hbody ⊢
      clear hCR
      go_wp2_with fail
      refine (add32_at w3.heap.size 2 2 (some ⟨w1.heap.size, 0, none⟩) ([] ++ toBE 2 k) CR (CR : Int) w3 rfl rfl (by simp [toBE_length]) hCR4 (by omega) ho3.rd).mono ?_
      rintro e w4 ⟨rfl, ho4, hb4⟩
      have B4 := B3.trans (hb4.mono B3.size)
      have hrd4 := hrd3.below hb4 (Nat.le_refl _)
      have hl4 : ([] ++ toBE 2 k ++ toBE 4 CR).length = 6 := by simp [toBE_length]
      have hown4 := Own.owns (B := w.heap.size) ho4 B3.size (by rw [hl4]; unfold maxLen; omega)
      rw [hl4] at hown4
      have hbk : Hid (0 < 4026 → av1 = none → False) := fun _ hnone => by
        obtain ⟨_, _, q, _⟩ := hrd1 (by omega)
        rw [hnone] at q
        cases q
      go_wp2_with (at_builtin; refine wpList_append_bytes rfl _ _ rfl w.heap.size _ 6 _ rfl hown4 av1 4026 cv1 R rfl hrl hrd4 (fun h => (hbk.out (by omega) h).elim) (by omega) B4.size ?_)
      intro v' w5 hown5 hg5
      have B5 := B4.grown hg5 B4.size (fun j e => by cases e; exact B3.size)
      rw [← bcs_append] at hown5
      clear hown4 hg5
      go_wp2
      go_ret
      exact ⟨v', rfl, by rw [hbody.out]; simpa using hown5, B5⟩
end Go.Proofs.Ytghcmlkgpedkkaa
