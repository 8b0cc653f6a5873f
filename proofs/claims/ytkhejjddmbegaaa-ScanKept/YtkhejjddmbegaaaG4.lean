/-
  RcBody, RcPutHM: put together.
-/
import Derived.Test.YtkhejjddmbegaaaG3
/-
  body: what stands behind the stamps of a head.
-/
namespace Go.Proofs.Ytkhejjddmbegaaa.Rc
open Go.RowKit

theorem restB_length (es : List (Nat × List UInt8)) (h : ∀ e ∈ es, e.2.length = 64) (hn : es.length ≤ 32) : (restB es).length = 4026 := by
  unfold restB
  rw [List.length_append, entsB_length es h, nought_length]
  omega
theorem wpList_append_ran {w : World} {ops : Array Oper} {rest : List Oper} {o : Oper} {a : Act} {Q : Exit → Act → World → Prop} (hgd : o.guard = none) (sl x : Operand) (t u : TypeId)
    (ho : o.op = .call { callee := .builtin .append, args := #[sl, x], argTypes := #[t, u] }) (v s v' : Value) (W : World) (hs : a.eval sl = v) (hx : a.eval x = s)
    (hrun : ∀ ty, (Builtin.append_ #[t, u] ty #[v, s]).run Try.prog w = .ok v' W) (h : wpList Try.prog ops Q rest (a.put o.dst v') W) : wpList Try.prog ops Q (o :: rest) a w := by
  refine wpList_plain hgd fun K hK => ?_
  unfold Oper.wp execOp
  simp only [ho, resolve, invoke, builtin, Sem.run_bind, Sem.run_pure, Result.andThen_ok, List.map_toArray, List.map_cons, List.map_nil, hs, hx, hrun]
  exact hK _ _ h


def bodyB (es : List (Nat × List UInt8)) : List UInt8 := toBE 2 es.length ++ toBE 4 (crc 0 (restB es)) ++ restB es
theorem bodyB_length (es : List (Nat × List UInt8)) (h : ∀ e ∈ es, e.2.length = 64) (hn : es.length ≤ 32) : (bodyB es).length = 4032 := by
  unfold bodyB
  simp [toBE_length, restB_length es h hn]

set_option maxRecDepth 100000 in
set_option maxHeartbeats 4000000 in
theorem body_at (a : Option Addr) (n cap : Nat) (es : List (Nat × List UInt8)) (w : World) (hl : es.length = n) (h0 : 0 < n) (hn : n ≤ 32) (hE : Ents w a es) (hb : ∀ e ∈ es, e.1 ≤ 511) :
    Calls Try.prog 76 #[.slice a n cap] w fun r w' => ∃ v, r = .returned v ∧ w'.ownsRow w.heap.size 5 1 v 4032 (bcs (bodyB es)) ∧ Below w.heap.size w w' := by
  have h64 : ∀ e ∈ es, e.2.length = 64 := fun e he => by
    obtain ⟨j, hj, rfl⟩ := List.getElem_of_mem he
    obtain ⟨b, o, _, hc⟩ := hE (by omega)
    obtain ⟨_, _, _, _, _, _, _, q, _⟩ := hc j hj
    exact q
  have hlen : ∀ k, k ≤ n → (entsB (es.take k)).length = k * 66 := fun k hk => by
    rw [entsB_length _ (fun e he => h64 e (List.mem_of_mem_take he)), List.length_take, hl, Nat.min_eq_left hk]
  obtain ⟨b, o, rfl, hc⟩ := hE (by omega)
  have HE : Hid (∀ j (h : j < es.length), EntAt w b (o + j * 2) es[j]) := hc
  have HB : Hid (∀ e ∈ es, e.1 ≤ 511) := hb
  have HL : Hid _ := hl
  have H64 : Hid (∀ e ∈ es, e.2.length = 64) := h64
  have HLen : Hid _ := hlen
  clear hE hc hb hl h64 hlen
  go_enter Try.func76, Try.ntmps76
  go_wp2_with fail
  go_loopw [3, 9] (fun v i wr => ∃ k : Nat, k ≤ n ∧ i = .int .i64 k ∧ wr.ownsRow w.heap.size 5 1 v (k * 66) (bcs (entsB (es.take k))) ∧ Below w.heap.size w wr) (fun _ i _ => n - (intOf i).toNat)
  case atStart => exact ⟨0, Nat.zero_le _, rfl, World.ownsRow_nil _ _ _ _, Below.refl _ _⟩
  case round =>
    obtain ⟨k, hk, rfl, hown, hB⟩ := hrel
    by_cases hlt : k < n
    · have hlt' : k < es.length := by rw [HL.out]; exact hlt
      obtain ⟨q1, g, q, c, q2, q3, q4, q5, q6⟩ := (HE.out k hlt').below hB
      have hbk : es[k].1 ≤ 511 := HB.out _ (List.getElem_mem hlt')
      have ht := entsB_take es k hlt'
      have hlk := HLen.out k hk
      obtain ⟨av, cv, rfl, hlv, hcv1, hcv2, hrd, _⟩ := owns_rd hown
      generalize es[k] = p at q1 q2 q5 q6 hbk ht
      obtain ⟨pb, ph⟩ := p
      dsimp only at q1 q2 q5 q6 hbk ht
      have bx := Box.new wr #[.int .i64 (pb : Int), .slice (some ⟨g, q, none⟩) 64 c] 122
      have x0 := bx.cell 0
      have x1 := bx.cell 1
      have B1 := hB.alloc hB.size (.cells #[.int .i64 (pb : Int), .slice (some ⟨g, q, none⟩) 64 c] 122)
      have hrd1 := hrd.below ((Below.refl wr.heap.size wr).alloc (Nat.le_refl _) (.cells #[.int .i64 (pb : Int), .slice (some ⟨g, q, none⟩) 64 c] 122)) (Nat.le_refl _)
      have q61 := q6.below ((Below.refl wr.heap.size wr).alloc (Nat.le_refl _) (.cells #[.int .i64 (pb : Int), .slice (some ⟨g, q, none⟩) 64 c] 122)) (Nat.le_refl _)
      have hwr : IntKind.u16.wrap (pb : Int) = (pb : Int) := wrap_u16_in pb (by omega)
      have hki : (k : Int) < n := by omega
      obtain ⟨U, hU⟩ : ∃ U, U = wr.alloc (.cells #[.int .i64 (pb : Int), .slice (some ⟨g, q, none⟩) 64 c] 122) := ⟨_, rfl⟩
      have sU : wr.heap.size ≤ U.heap.size := by rw [hU]; simp
      have c1 := add16_at U.heap.size cv (k * 66) av (entsB (es.take k)) pb (pb : Int) U rfl rfl hlk (by omega) (by omega) (by rw [hU]; exact hrd1)
      have y0 : U.cell? ⟨wr.heap.size, 1, none⟩ = some (.slice (some ⟨g, q, none⟩) 64 c) := by rw [hU]; exact x1
      have hsz : wr.heap.size < U.heap.size := by rw [hU]; simp
      have HU : Hid _ := hU
      rw [← hU] at B1 q61
      clear hU hrd1 hrd q6
      go_wp2_with fail
      rw [← HU.out]
      refine c1.mono ?_
      rintro e w1 ⟨rfl, ho1, hb1⟩
      have hl1 : (entsB (es.take k) ++ toBE 2 pb).length = k * 66 + 2 := by rw [List.length_append, hlk, toBE_length]
      have hown1 := Own.owns (B := w.heap.size) ho1 (by have := hB.size; omega) (by rw [hl1]; unfold maxLen; omega)
      rw [hl1] at hown1
      have z0 := (hb1.cell (p := ⟨wr.heap.size, 1, none⟩) hsz).trans y0
      have q62 := q61.below hb1 (Nat.le_refl _)
      have B2 := B1.trans (hb1.mono B1.size)
      have hsw : w.heap.size ≤ w1.heap.size := B2.size
      clear c1 x0 x1 y0 bx q61 q1 q2
      go_wp2_with (at_builtin; refine wpList_append_bytes rfl _ _ rfl w.heap.size _ (k * 66 + 2) _ rfl hown1 (some ⟨g, q, none⟩) 64 c ph rfl q5 q62 (fun h => by cases h) (by omega) hsw ?_)
      intro v' w2 hown2 hg2
      have B3 := B2.grown hg2 hsw (fun j e => by cases e; show w.heap.size ≤ U.heap.size; have := hB.size; omega)
      rw [← bcs_append, ← ht] at hown2
      have e66 : k * 66 + 2 + 64 = (k + 1) * 66 := by omega
      rw [e66] at hown2
      have HT : Hid _ := ht
      have HLK : Hid _ := hlk
      clear ht hlk hl1 hown1 hg2 hown B2 B1 hB
      go_wp2
      go_roundw
      case rel => exact ⟨k + 1, by omega, by go_num, hown2, B3⟩
      case measure => simp [intOf]; omega
    · obtain rfl : k = n := by omega
      have hall : es.take k = es := List.take_of_length_le (by rw [HL.out]; omega)
      rw [hall] at hown
      have hll := HLen.out k (Nat.le_refl _)
      rw [hall] at hll
      have hrl := restB_length es H64.out (by rw [HL.out]; exact hn)
      have hrest : restB es = entsB es ++ nought (4026 - k * 66) := by unfold restB; rw [HL.out]
      obtain ⟨m, hm⟩ : ∃ m, m = 4026 - k * 66 := ⟨_, rfl⟩
      rw [← hm] at hrest
      have hmk : k * 66 + m = 4026 := by omega
      have hmi : (4026 : Int) - ((k * 66 : Nat) : Int) = (m : Int) := by omega
      obtain ⟨av, cv, rfl⟩ := owns_shape hown
      obtain ⟨v1, w1, hrun, hown1, hg1⟩ := run_append_zeros wr w.heap.size 32 _ (k * 66) m (entsB es) (by omega) (by omega) hown (by omega) hB.size
      have hrun' : ∀ ty, (Builtin.append_ #[32, 3] ty #[.slice av (k * 66) cv, .int .i64 (m : Int)]).run Try.prog wr = .ok v1 w1 := fun ty => hrun
      have B1 := hB.grown hg1 hB.size (fun j e => (owns_block hown j e).1)
      rw [hmk, ← hrest] at hown1
      have hbody : Hid (bodyB es = toBE 2 k ++ toBE 4 (crc 0 (restB es)) ++ restB es) := by show _ = _; unfold bodyB; rw [HL.out]
      obtain ⟨K66, hK66⟩ : ∃ x, x = k * 66 := ⟨_, rfl⟩
      rw [← hK66] at hmi hrun'
      have hK2 : K66 ≤ 4026 := by omega
      clear hown hll hmk hrest hm hrun hg1 hall hB HLen
      generalize restB es = R at hown1 hrl hbody
      rw [← hK66]
      clear hK66
      obtain ⟨av1, cv1, rfl, hlv1, hcv1, hcv2, hrd1, _⟩ := owns_rd hown1
      have hw16 : IntKind.u16.wrap (k : Int) = (k : Int) := wrap_u16_in k (by omega)
      go_wp2_with (at_builtin; refine wpList_append_ran rfl _ _ 32 3 rfl _ _ _ w1 rfl rfl hrun' ?_)
      refine (add16_at w1.heap.size 0 0 none [] k (k : Int) w1 rfl rfl rfl (by omega) (by omega) (Rd.nil _ _)).mono ?_
      rintro e w2 ⟨rfl, ho2, hb2⟩
      have hrd2 := hrd1.below hb2 (Nat.le_refl _)
      have B2 := B1.trans (hb2.mono B1.size)
      go_wp2_with fail
      refine (crc_at cv1 4026 av1 R w2 hrl (by omega) hrd2).mono ?_
      rintro e w3 ⟨rfl, hb3⟩
      have ho3 := ho2.below hb3 ho2.lt
      have hrd3 := hrd2.below hb3 (Nat.le_refl _)
      have B3 := B2.trans (hb3.mono B2.size)
      obtain ⟨CR, hCR⟩ : ∃ c, c = crc 0 R := ⟨_, rfl⟩
      have hCR4 : CR < 4294967296 := by rw [hCR]; exact crc_lt 0 R
      rw [← hCR] at hbody ⊢
      clear hCR
      go_wp2_with fail
      refine (add32_at w3.heap.size 2 2 (some ⟨w1.heap.size, 0, none⟩) ([] ++ toBE 2 k) CR (CR : Int) w3 rfl rfl (by simp [toBE_length]) hCR4 (by omega) ho3.rd).mono ?_
      rintro e w4 ⟨rfl, ho4, hb4⟩
      have B4 := B3.trans (hb4.mono B3.size)
      have hrd4 := hrd3.below hb4 (Nat.le_refl _)
      have hl4 : ([] ++ toBE 2 k ++ toBE 4 CR).length = 6 := by simp [toBE_length]
      have hown4 := Own.owns (B := w.heap.size) ho4 B3.size (by rw [hl4]; unfold maxLen; omega)
      rw [hl4] at hown4
      have hbk : Hid (0 < 4026 → av1 = none → False) := fun _ hnone => by
        obtain ⟨_, _, q, _⟩ := hrd1 (by omega)
        rw [hnone] at q
        cases q
      go_wp2_with (at_builtin; refine wpList_append_bytes rfl _ _ rfl w.heap.size _ 6 _ rfl hown4 av1 4026 cv1 R rfl hrl hrd4 (fun h => (hbk.out (by omega) h).elim) (by omega) B4.size ?_)
      intro v' w5 hown5 hg5
      have B5 := B4.grown hg5 B4.size (fun j e => by cases e; exact B3.size)
      rw [← bcs_append] at hown5
      clear hown4 hg5
      go_wp2
      go_ret
      exact ⟨v', rfl, by rw [hbody.out]; simpa using hown5, B5⟩
end Go.Proofs.Ytkhejjddmbegaaa.Rc

/-
  putHeading: what it does to memory.
-/
namespace Go.Proofs.Ytkhejjddmbegaaa.Rc
open Go.RowKit Go.Shelf
attribute [local go_sem] Oper.semAt_some

theorem make_run (n : Nat) (hn : n ≤ 281474976710656) (u : World) : (Instr.makeSlice 32 (.int .i64 (n : Int)) (.int .i64 (n : Int))).run Try.prog u =
    .ok (.slice (some ⟨u.heap.size, 0, none⟩) n n) (u.alloc (.cells (bcs (nought n)).toArray 5)) := by
  obtain ⟨i0, hi, hz0, hz1, hz2⟩ := info_parts info5
  have h := run_make (P := Try.prog) u 32 5 i0 (.int .u8 0) Try.underlying32 hi hz0 .i64 .i64 (n : Int) (n : Int) (by omega) (Int.le_refl _) (by rw [hz2]; omega) (by omega)
  have e : ((n : Int)).toNat = n := by omega
  rw [e, hz1, Nat.mul_one] at h
  have e2 : madeCells #[.int .u8 0] n = (bcs (nought n)).toArray := made_zero n
  rw [← e2]
  exact h


/-- copy, where what is copied may be longer than where it goes -/
theorem copy_row2 (g cap off dLen dCap : Nat) (a : Option Addr) (sLen sCap : Nat) (xs ys : List UInt8) (u : World) (hg : RowB u g cap ys) (hr : Rd u a xs) (hl : xs.length = Nat.min sLen dLen) (hfit : off + xs.length ≤ ys.length) (h0 : 0 < xs.length) :
    ∃ W, (∀ ty, (Builtin.copy_ #[32, 32] ty #[.slice (some ⟨g, off, none⟩) dLen dCap, .slice a sLen sCap]).run Try.prog u = .ok (goInt xs.length) W) ∧ RowB W g cap (over ys off xs) ∧ u.grownBy W (some g) := by
  obtain ⟨b, o, rfl, hc⟩ := hr h0
  obtain ⟨W, h1, h2, h3⟩ := copy_row g cap off xs.length dCap (some ⟨b, o, none⟩) sCap xs ys u hg hr (Nat.le_refl _) hfit h0
  obtain ⟨cur, hb, hlc, hm, hs, ht⟩ := hg
  have hsrc : ∀ j v, (bcs xs)[j]? = some v → u.cell? ((⟨b, o, none⟩ : Addr).add j) = some v := fun j v hj => by
    have hj' : j < xs.length := by have := (List.getElem?_eq_some_iff.1 hj).1; simpa [bcs_length] using this
    rw [bcs_getElem? xs j hj'] at hj
    rw [Addr.add_lit, hc j hj']
    exact hj
  have k1 := fun ty => run_copy_row (P := Try.prog) u 32 32 ty 5 g off dLen dCap ⟨b, o, none⟩ sLen sCap cur 5 (bcs xs) Try.underlying32 size5 hb (by rw [bcs_length]; exact hl) hsrc (by rw [bcs_length]; omega) (bcs_oneCell xs)
  have k2 := run_copy_row (P := Try.prog) u 32 32 0 5 g off xs.length dCap ⟨b, o, none⟩ xs.length sCap cur 5 (bcs xs) Try.underlying32 size5 hb (by rw [bcs_length]; exact (Nat.min_self _).symm) hsrc (by rw [bcs_length]; omega) (bcs_oneCell xs)
  refine ⟨W, fun ty => ?_, h2, h3⟩
  rw [k1 ty]
  rw [h1 0] at k2
  rw [bcs_length] at k2 ⊢
  exact k2.symm

/-- one sector of a head -/
def putStep (M BB : List UInt8) (st : List UInt8 × Nat) (x : Fin 8) : List UInt8 × Nat := (over (over st.1 (x.val * 512) M) (x.val * 512 + 8) ((BB.drop (st.2 * 504)).take 504), st.2 + 1)
def putTo (Z M BB : List UInt8) (pre : List (Fin 8)) : List UInt8 × Nat := pre.foldl (putStep M BB) (Z, 0)
theorem putTo_snoc (Z M BB : List UInt8) (pre : List (Fin 8)) (x : Fin 8) : putTo Z M BB (pre ++ [x]) = putStep M BB (putTo Z M BB pre) x := by simp [putTo]
theorem putTo_two (Z M BB : List UInt8) (pre : List (Fin 8)) : (putTo Z M BB pre).2 = pre.length := by
  unfold putTo
  have : ∀ (pre : List (Fin 8)) (st : List UInt8 × Nat), (pre.foldl (putStep M BB) st).2 = st.2 + pre.length := by
    intro pre
    induction pre with
    | nil => intro st; rfl
    | cons x pre ih =>
      intro st
      rw [List.foldl_cons, ih]
      simp [putStep]
      omega
  rw [this]
  simp
theorem putTo_length (Z M BB : List UInt8) (hl : Z.length = 4096) (hm : M.length = 8) (hb : BB.length = 4032) (pre : List (Fin 8)) (_ : pre.length ≤ 8) : (putTo Z M BB pre).1.length = 4096 := by
  unfold putTo
  have : ∀ (pre : List (Fin 8)) (st : List UInt8 × Nat), st.1.length = 4096 → (pre.foldl (putStep M BB) st).1.length = 4096 := by
    intro pre
    induction pre with
    | nil => intro st h; exact h
    | cons x pre ih =>
      intro st h
      have hx := x.isLt
      rw [List.foldl_cons]
      refine ih _ ?_
      unfold putStep
      have h1 : (over st.1 (x.val * 512) M).length = 4096 := by rw [over_length _ _ _ (by rw [h, hm]; omega)]; exact h
      rw [over_length _ _ _ (by rw [h1]; simp [hb]; omega)]
      exact h1
  exact this pre _ hl

/-- what stands in memory while the sectors come -/
def PutI (h g4 gr cv b8 b9 k1 : Nat) (M BB d : List UInt8) (k : Nat) (W : World) : Prop :=
  RowB W h 4096 d ∧ Box W b8 #[.slice (some ⟨g4, 0, none⟩) 8 8] 32 ∧ (∃ o', Box W b9 #[.slice (some ⟨gr, o', none⟩) (4032 - k * 504) (cv - k * 504)] 32 ∧ (k < 8 → o' = k * 504)) ∧ Own W g4 M ∧ RowB W gr cv BB ∧ ∃ cs, Box W k1 cs 32
theorem PutI.kept {h g4 gr cv b8 b9 k1 : Nat} {M BB d : List UInt8} {k : Nat} {A B : World} {row : Option Nat} (hI : PutI h g4 gr cv b8 b9 k1 M BB d k A) (hg : A.grownBy B row) (hr : ∀ r, row = some r → ∃ o : Obj, A.heap[r]? = some o ∧ o.isCells = false) : PutI h g4 gr cv b8 b9 k1 M BB d k B := by
  obtain ⟨a1, a2, ⟨o', a3, a4⟩, a5, a6, cs, a7⟩ := hI
  exact ⟨a1.kept hg hr, a2.kept hg hr, ⟨o', a3.kept hg hr, a4⟩, Box.kept a5 hg hr, a6.kept hg hr, cs, a7.kept hg hr⟩

theorem puth_round (w W : World) (h g4 gr cv b8 b9 k1 k : Nat) (M BB d : List UInt8) (x : Fin 8) (z8 : w.heap.size + 2 ≤ b8) (z9 : w.heap.size + 2 ≤ b9) (zk : b9 ≠ k1) (hne : b9 ≠ b8) (hk : k < 8) (hd : d.length = 4096) (hm : M.length = 8) (hb : BB.length = 4032) (hc1 : 4032 ≤ cv) (hc2 : cv ≤ 9223372036854775807)
    (hh : h = w.heap.size + 1) (zg : g4 ≠ h) (zr : gr ≠ h)
    (hI : PutI h g4 gr cv b8 b9 k1 M BB d k W) (hB : Below w.heap.size w W) :
    ∃ W5 W6 L C, (∀ ty, (Builtin.copy_ #[32, 32] ty #[.slice (some ⟨h, x.val * 512, none⟩) 512 512, .slice (some ⟨g4, 0, none⟩) 8 8]).run Try.prog W = .ok (goInt 8) W5) ∧
      (∀ ty, (Builtin.copy_ #[32, 32] ty #[.slice (some ⟨h, x.val * 512 + 8, none⟩) 504 504, .slice (some ⟨gr, k * 504, none⟩) L C]).run Try.prog W5.drew = .ok (goInt 504) W6) ∧
      W.cell? ⟨b8, 0, none⟩ = some (.slice (some ⟨g4, 0, none⟩) 8 8) ∧ W5.cell? ⟨b9, 0, none⟩ = some (.slice (some ⟨gr, k * 504, none⟩) L C) ∧ W6.cell? ⟨b9, 0, none⟩ = some (.slice (some ⟨gr, k * 504, none⟩) L C) ∧ W6.frozen? ⟨b9, 0, none⟩ = false ∧
      (504 ≤ L ∧ 504 ≤ C ∧ L ≤ C ∧ C ≤ 9223372036854775807 ∧ (k + 1 < 8 → C ≠ 504)) ∧
      ∀ v', (∃ o', v' = .slice (some ⟨gr, o', none⟩) (L - 504) (C - 504) ∧ (k + 1 < 8 → o' = (k + 1) * 504)) →
        KeepsOthers W (W6.setCell ⟨b9, 0, none⟩ v') ∧ CellK k1 W (W6.setCell ⟨b9, 0, none⟩ v') ∧ PutI h g4 gr cv b8 b9 k1 M BB (over (over d (x.val * 512) M) (x.val * 512 + 8) ((BB.drop (k * 504)).take 504)) (k + 1) (W6.setCell ⟨b9, 0, none⟩ v') ∧ Below w.heap.size w (W6.setCell ⟨b9, 0, none⟩ v') := by
  obtain ⟨a1, a2, ⟨o', a3, a4⟩, a5, a6, cs, a7⟩ := hI
  obtain rfl := a4 hk
  have hx8 := x.isLt
  have n8 : b8 ≠ h := by omega
  have n9 : b9 ≠ h := by omega
  have nk : k1 ≠ h := by
    obtain ⟨cur, q, _⟩ := a1
    exact fun e => q.ne a7 (by decide) e.symm
  obtain ⟨W5, r5, row5, g5⟩ := copy_row h 4096 (x.val * 512) 512 512 (some ⟨g4, 0, none⟩) 8 M d W a1 a5.rd (by omega) (by omega) (by omega)
  rw [hm] at r5
  have b5 : Box W5 b9 _ 32 := a3.grown g5 (fun e => n9 (by cases e; rfl))
  have t5 : ((BB.drop (k * 504)).take 504).length = 504 := by simp; omega
  have rd5 : Rd W5.drew (some ⟨gr, k * 504, none⟩) ((BB.drop (k * 504)).take 504) := by
    have := ((a6.grown g5 (fun e => zr (by cases e; rfl))).rd).part (k * 504) 504
    rw [Nat.zero_add] at this
    exact this
  have hl5 : (over d (x.val * 512) M).length = 4096 := by rw [over_length _ _ _ (by omega)]; exact hd
  obtain ⟨W6, r6, row6, g6⟩ := copy_row2 h 4096 (x.val * 512 + 8) 504 504 (some ⟨gr, k * 504, none⟩) (4032 - k * 504) (cv - k * 504) _ _ W5.drew (show RowB W5.drew h 4096 _ from row5) rd5 (by rw [t5]; exact (Nat.min_eq_right (by omega)).symm) (by omega) (by omega)
  rw [t5] at r6
  have b6 : Box W6 b9 _ 32 := Box.grown (w := W5.drew) b5 g6 (fun e => n9 (by cases e; rfl))
  have B5 := hB.grown g5 hB.size (fun j e => by cases e; omega)
  have B6 : Below w.heap.size w W6 := B5.drew.grown g6 B5.size (fun j e => by cases e; omega)
  have k5 : KeepsOthers W W5 := by obtain ⟨cur, q, _⟩ := a1; exact keeps_grown q g5
  have k6 : KeepsOthers W5.drew W6 := by obtain ⟨cur, q, _⟩ := row5; exact keeps_grown (A := W5.drew) q g6
  refine ⟨W5, W6, 4032 - k * 504, cv - k * 504, r5, r6, a2.cell 0, b5.cell 0, b6.cell 0, b6.frozen 0, ⟨by omega, by omega, by omega, by omega, by omega⟩, ?_⟩
  rintro v' ⟨o', rfl, ho⟩
  have st : ∀ {g : Nat} {cs : Array Value} {t : TypeId}, Box W g cs t → g ≠ h → g ≠ b9 → Box (W6.setCell ⟨b9, 0, none⟩ (.slice (some ⟨gr, o', none⟩) (4032 - k * 504 - 504) (cv - k * 504 - 504))) g cs t := fun hb h1 h2 =>
    (heap_setCell_other W6 ⟨b9, 0, none⟩ _ _ h2).trans (Box.grown (w := W5.drew) (show Box W5 _ _ _ from hb.grown g5 (fun e => h1 (Option.some.inj e).symm)) g6 (fun e => h1 (Option.some.inj e).symm))
  refine ⟨((k5.trans (KeepsOthers.drew W5)).trans k6).trans (KeepsOthers.setCell _ _ _), ?_, ⟨rowB_store row6 b6 (by decide) _, st a2 n8 (fun e => hne e.symm), ⟨o', ?_, ho⟩, st a5 zg (fun e => ?_), ?_, cs, st a7 nk (fun e => zk e.symm)⟩, B6.setCell (p := ⟨b9, 0, none⟩) (by show w.heap.size ≤ b9; omega) _⟩
  · exact ((st a7 nk (fun e => zk e.symm)).cell 0).trans (a7.cell 0).symm
  · have := b6.store 0 (.slice (some ⟨gr, o', none⟩) (4032 - k * 504 - 504) (cv - k * 504 - 504))
    have e1 : 4032 - (k + 1) * 504 = 4032 - k * 504 - 504 := by omega
    have e2 : cv - (k + 1) * 504 = cv - k * 504 - 504 := by omega
    rw [e1, e2]
    simpa using this
  · exact Box.ne (t := 5) (t' := 32) a5 a3 (by decide) e
  · obtain ⟨cur, q, rest⟩ := a6
    exact ⟨cur, st q zr (q.ne a3 (by decide)), rest⟩


theorem owns_below {w w' : World} {base e size n : Nat} {v : Value} {xs : List Value} (h : w.ownsRow base e size v n xs) (hb : Below w.heap.size w w') : w'.ownsRow base e size v n xs := by
  refine ⟨h.1, ?_⟩
  rcases h.2 with h | ⟨g, cap, cur, e1, e2, e3, e4⟩
  · exact .inl h
  · exact .inr ⟨g, cap, cur, e1, e2, (hb.block g (Array.getElem?_eq_some_iff.1 e3).1).trans e3, e4⟩
theorem owns_base {w : World} {base base' e size n : Nat} {v : Value} {xs : List Value} (h : w.ownsRow base e size v n xs) (hb : base' ≤ base) : w.ownsRow base' e size v n xs := by
  refine ⟨h.1, ?_⟩
  rcases h.2 with h | ⟨g, cap, cur, e1, e2, e3⟩
  · exact .inl h
  · exact .inr ⟨g, cap, cur, e1, Nat.le_trans hb e2, e3⟩
theorem Own.other {w : World} {g b : Nat} {ys : List UInt8} {j : Nat} {u : Value} (h : Own w g ys) (hne : g ≠ b) : Own (w.setCell ⟨b, j, none⟩ u) g ys := (heap_setCell_other w ⟨b, j, none⟩ g u hne).trans h

/-- the stamp and the rest, each in a box -/
def PutHI (k0 g4 b8 b9 : Nat) (av : Option Addr) (cv : Nat) (M BB : List UInt8) (W : World) : Prop :=
  (k0 ≤ b8 ∧ k0 ≤ b9 ∧ b9 ≠ b8) ∧ Box W b8 #[.slice (some ⟨g4, 0, none⟩) 8 8] 32 ∧ Box W b9 #[.slice av 4032 cv] 32 ∧ (k0 ≤ g4 ∧ Own W g4 M) ∧ W.ownsRow k0 5 1 (.slice av 4032 cv) 4032 (bcs BB)

theorem putHI_end {V : World} {k0 g4 b8 b9 : Nat} {av : Option Addr} {cv : Nat} {M BB : List UInt8} (hne : b9 ≠ b8) (z8 : k0 ≤ b8) (z9 : k0 ≤ b9) (z4 : k0 ≤ g4) (m4 : Own V g4 M) (r7 : V.ownsRow k0 5 1 (.slice av 4032 cv) 4032 (bcs BB))
    (p8 : Box V b8 #[.slice none 0 0] 32) (p9 : Box V b9 #[.slice none 0 0] 32) : PutHI k0 g4 b8 b9 av cv M BB ((V.setCell ⟨b8, 0, none⟩ (.slice (some ⟨g4, 0, none⟩) 8 8)).setCell ⟨b9, 0, none⟩ (.slice av 4032 cv)) := by
  have q8 : Box (V.setCell ⟨b8, 0, none⟩ (.slice (some ⟨g4, 0, none⟩) 8 8)) b8 #[.slice (some ⟨g4, 0, none⟩) 8 8] 32 := by have := p8.store 0 (.slice (some ⟨g4, 0, none⟩) 8 8); simpa using this
  have q9 : Box (V.setCell ⟨b8, 0, none⟩ (.slice (some ⟨g4, 0, none⟩) 8 8)) b9 #[.slice none 0 0] 32 := (heap_setCell_other V ⟨b8, 0, none⟩ b9 _ hne).trans p9
  have n8 : g4 ≠ b8 := Box.ne (t := 5) (t' := 32) m4 p8 (by decide)
  have n9 : g4 ≠ b9 := Box.ne (t := 5) (t' := 32) m4 p9 (by decide)
  have nr : ∀ g, (Value.slice av 4032 cv).ownBlock = some g → g ≠ b8 ∧ g ≠ b9 := fun g hg => by
    obtain ⟨_, cur, q⟩ := owns_block r7 g hg
    exact ⟨q.ne p8 (by decide), q.ne p9 (by decide)⟩
  refine ⟨⟨z8, z9, hne⟩, (heap_setCell_other _ ⟨b9, 0, none⟩ b8 _ (fun h => hne h.symm)).trans q8, ?_, ⟨z4, Own.other (Own.other m4 n8) n9⟩, ?_⟩
  · have := q9.store 0 (.slice av 4032 cv); simpa using this
  · exact owns_grown (owns_grown r7 (grown_store V b8 0 _) (fun g hg e => (nr g hg).1 (by cases e; rfl))) (grown_store _ b9 0 _) (fun g hg e => (nr g hg).2 (by cases e; rfl))

end Go.Proofs.Ytkhejjddmbegaaa.Rc
