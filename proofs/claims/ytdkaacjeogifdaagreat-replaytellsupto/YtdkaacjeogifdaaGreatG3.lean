/-
  RcSums, RcBody, RcPutHM, RcPutHb, RcHide, RcEntsOf, RcRightH, RcRightG, RcPutB, RcBodyOf, RcGetH, RcUnhide, RcGetB, RcHead, RcCat, RcGrp, RcMix, RcSame, RcLow, RcMade, HFit, LaOf, HMade, HHome, HSort, HRising, DkLists, HPlain, DkLoads, DkPower, DkMake: put together.
-/
import Derived.Test.YtdkaacjeogifdaaGreatG2
import Derived.WalkKit
import Derived.WalkSpells
import Derived.WalkLawsBesides
import Derived.Laws.BitsLemmas
import Derived.Lib.SlBytesConst
import Derived.BigQuiet
import Derived.Deep.QuietTactic
import Derived.Test.YtdkaacjeogifdaaGreatRows
import Derived.Laws.BytesArg
import Derived.ProofKit
import Derived.Laws.StructEq
import Derived.Deep.RegionWith
import Derived.Deep.AppendLies
import Derived.Orders
import Derived.RegionTactic
/-
  What the layer's calls do: the closure's turn, More, Crc; each told by the register of the plain text.
-/
namespace Go.Proofs.YtdkaacjeogifdaaGreat.Rc
open Go.RowKit

/-- One variable of 32 bits in a block of its own. -/
def One (w : World) (g r : Nat) : Prop := w.heap[g]? = some (.cells #[.int .u32 (r : Int)] 107 (0, 0))

theorem One.cell {w : World} {g r : Nat} (h : One w g r) : w.cell? ⟨g, 0, none⟩ = some (.int .u32 (r : Int)) := cell_of_one h
theorem One.frozen {w : World} {g r : Nat} (h : One w g r) : w.frozen? ⟨g, 0, none⟩ = false := free_of_one h
theorem One.store {w : World} {g r : Nat} (h : One w g r) (s : Nat) : One (w.setCell ⟨g, 0, none⟩ (.int .u32 (s : Int))) g s := one_setCell h

theorem xor_u32 (a b : Nat) (ha : a < 4294967296) (hb : b < 4294967296) : bits .xor .u32 (a : Int) (b : Int) = ((a ^^^ b : Nat) : Int) := by
  have hx : a ^^^ b < 2 ^ 32 := Nat.xor_lt_two_pow (by omega) (by omega)
  have h1 : (BitVec.ofInt 32 (a : Int)).toNat = a := by
    rw [BitVec.ofInt_natCast, BitVec.toNat_ofNat]; exact Nat.mod_eq_of_lt (by omega)
  have h2 : (BitVec.ofInt 32 (b : Int)).toNat = b := by
    rw [BitVec.ofInt_natCast, BitVec.toNat_ofNat]; exact Nat.mod_eq_of_lt (by omega)
  show IntKind.u32.wrap ((BitVec.ofInt 32 (a : Int) ^^^ BitVec.ofInt 32 (b : Int)).toNat : Int) = _
  rw [BitVec.toNat_xor, h1, h2, IntKind.wrap_u32]
  omega

theorem xor_u8 (a b : Nat) (ha : a < 256) (hb : b < 256) : bits .xor .u8 (a : Int) (b : Int) = ((a ^^^ b : Nat) : Int) := by
  have hx : a ^^^ b < 2 ^ 8 := Nat.xor_lt_two_pow (by omega) (by omega)
  have h1 : (BitVec.ofInt 8 (a : Int)).toNat = a := by
    rw [BitVec.ofInt_natCast, BitVec.toNat_ofNat]; exact Nat.mod_eq_of_lt (by omega)
  have h2 : (BitVec.ofInt 8 (b : Int)).toNat = b := by
    rw [BitVec.ofInt_natCast, BitVec.toNat_ofNat]; exact Nat.mod_eq_of_lt (by omega)
  show IntKind.u8.wrap ((BitVec.ofInt 8 (a : Int) ^^^ BitVec.ofInt 8 (b : Int)).toNat : Int) = _
  rw [BitVec.toNat_xor, h1, h2, IntKind.wrap_u8]
  omega

theorem and_one (a : Nat) (ha : a < 4294967296) : bits .and .u32 (a : Int) 1 = ((a % 2 : Nat) : Int) := by
  have h := bits_mask .u32 32 (by decide) (fun n h0 h1 => by rw [IntKind.wrap_u32]; omega) 1 (by decide) (a : Int) (by omega) (by omega)
  simpa using h

theorem of_not_bne {a b : Int} (h : (a != b) = false) : a = b := by simpa using h

theorem not_u32 (s : Nat) (hs : s < 4294967296) : bits .xor .u32 IntKind.u32.max (s : Int) = ((4294967295 - s : Nat) : Int) := by
  have e : IntKind.u32.max = ((4294967295 : Nat) : Int) := by decide
  rw [e, xor_u32 _ _ (by decide) hs, Nat.xor_comm, ← flip_xor hs]

theorem turn_any (g r b : Nat) (w : World) (hr : r < 4294967296) (h : One w g r) :
    Calls Tryz.prog 94 #[.int .u32 b, .pointer (some ⟨g, 0, none⟩)] w fun e w' => e = .returned (.tuple #[]) ∧ One w' g (step r b) ∧ w.grownBy w' (some g) := by
  have hc := h.cell
  have hf := h.frozen
  have ha := and_one r hr
  have hx : bits .xor .u32 ((r : Int) / 2) 2197175160 = ((r / 2 ^^^ taps : Nat) : Int) := xor_u32 (r / 2) taps (by omega) (by decide)
  have Ha : Hid _ := ha
  have Hx : Hid _ := hx
  clear ha hx
  go_enter Tryz.func94, Tryz.ntmps94
  go_wp2
  · go_end0
    rename_i ht
    rw [Ha.out] at ht
    have hne : r % 2 ≠ b := by
      intro e
      rw [e] at ht
      simp at ht
    rw [Hx.out]
    unfold step
    rw [if_neg hne]
    exact ⟨rfl, (h.store (r / 2)).store _, grown_trans (grown_store _ _ _ _) (grown_store _ _ _ _)⟩
  · go_end0
    rename_i ht
    rw [Ha.out] at ht
    have heq : r % 2 = b := by
      have := of_not_bne ht
      omega
    unfold step
    rw [if_pos heq]
    exact ⟨rfl, h.store (r / 2), grown_store _ _ _ _⟩

theorem turn_at (g r b : Nat) (V : Int) (w : World) (hV : V = (b : Int)) (hr : r < 4294967296) (h : One w g r) :
    Calls Tryz.prog 94 #[.int .u32 V, .pointer (some ⟨g, 0, none⟩)] w fun e w' => e = .returned (.tuple #[]) ∧ One w' g (step r b) ∧ w.grownBy w' (some g) := by
  subst hV
  exact turn_any g r b w hr h

theorem byte_bit (c : UInt8) (i : Nat) : bits .and .u32 ((c.toNat : Int) % 4294967296 / 2 ^ i) 1 = ((c.toNat / 2 ^ i % 2 : Nat) : Int) := by
  have e : (c.toNat : Int) % 4294967296 = c.toNat := by have := u8_lt c; omega
  rw [e]
  have h := and_one (c.toNat / 2 ^ i) (by have := u8_lt c; have := Nat.div_le_self c.toNat (2 ^ i); omega)
  rw [← h]
  congr 1

theorem more_in (b o cap n : Nat) (xs : List UInt8) (s : Nat) (w : World) (hl : xs.length = n) (hn : n ≤ 9223372036854775807) (hs : s < 4294967296)
    (hc : ∀ j, j < n → w.cell? ⟨b, o + j, none⟩ = some (.int .u8 ((xs.getD j 0).toNat : Int))) (hb : b < w.heap.size) :
    Calls Tryz.prog 87 #[.int .u32 s, .slice (some ⟨b, o, none⟩) n cap] w fun e w' => e = .returned (.int .u32 (crc s xs : Nat)) ∧ Below w.heap.size w w' := by
  have Hl : Hid (xs.length = n) := hl
  clear hl
  have Hs : Hid _ := not_u32 s hs
  go_enter Tryz.func87, Tryz.ntmps87
  go_wp2_with fail
  rw [Hs.out]
  go_loopw [15] (fun i wr => ∃ k : Nat, k ≤ n ∧ i = .int .i64 k ∧ One wr w.heap.size (reg (4294967295 - s) (xs.take k)) ∧ Below w.heap.size w wr) (fun i _ => n - (intOf i).toNat)
  case atStart => exact ⟨0, Nat.zero_le _, rfl, heap_alloc_new w _, (Below.refl _ _).alloc (Nat.le_refl _) _⟩
  case round =>
    obtain ⟨k, hk, rfl, hone, hbel⟩ := hrel
    by_cases hlt : k < n
    · obtain ⟨c, hcc⟩ : ∃ c, xs.getD k 0 = c := ⟨_, rfl⟩
      have hcx : wr.cell? ⟨b, o + k, none⟩ = some (.int .u8 (c.toNat : Int)) := by rw [← hcc]; exact (hbel.cell (by exact hb)).trans (hc k hlt)
      obtain ⟨R, hR⟩ : ∃ R, reg (4294967295 - s) (xs.take k) = R := ⟨_, rfl⟩
      rw [hR] at hone
      have HR : Hid _ := hR
      have Hcc : Hid _ := hcc
      clear hR hcc
      have hRl : R < 4294967296 := by rw [← HR.out]; exact reg_lt _ (by omega)
      go_wp2_with fail
      go_loopw [19] (fun i wq => ∃ j : Nat, j ≤ 8 ∧ i = .int .i64 j ∧ One wq w.heap.size (steps R c.toNat j) ∧ Below w.heap.size w wq) (fun i _ => 8 - (intOf i).toNat)
      case atStart => exact ⟨0, Nat.zero_le _, rfl, hone, hbel⟩
      case round =>
        obtain ⟨j, hj, rfl, hone2, hbel2⟩ := hrel
        by_cases hlt2 : j < 8
        · go_wp2_with fail
          refine (turn_at w.heap.size (steps R c.toNat j) (c.toNat / 2 ^ j % 2) _ wr (byte_bit c j) (steps_lt _ hRl j) hone2).mono ?_
          rintro e w1 ⟨rfl, hone3, hgr⟩
          have hbel3 : Below w.heap.size w w1 := hbel2.grown hgr hbel2.size (fun k hk => by simp at hk; omega)
          clear hgr hone2 hbel2
          go_wp2
          go_roundw
          case rel => exact ⟨j + 1, by omega, by go_num, hone3, hbel3⟩
          case measure => simp [intOf]; omega
        · obtain rfl : j = 8 := by omega
          go_wp2
          go_roundw
          case rel =>
            refine ⟨k + 1, by omega, by go_num, ?_, hbel2⟩
            have hk' : k < xs.length := by rw [Hl.out]; exact hlt
            have hcc := Hcc.out
            rw [reg_succ _ _ _ hk', HR.out]
            simp only [List.getD, List.getElem?_eq_getElem hk', Option.getD_some] at hcc
            rw [hcc]
            exact hone2
          case measure => simp [intOf]; omega
    · obtain rfl : k = n := by omega
      have hce := hone.cell
      go_wp2
      go_ret
      refine ⟨?_, hbel⟩
      rw [List.take_of_length_le (by rw [Hl.out]; exact Nat.le_refl _), not_u32 _ (reg_lt _ (by omega))]
      rfl

theorem more_none (a : Option Addr) (cap : Nat) (s : Nat) (w : World) (hs : s < 4294967296) :
    Calls Tryz.prog 87 #[.int .u32 s, .slice a 0 cap] w fun e w' => e = .returned (.int .u32 (crc s [] : Nat)) ∧ Below w.heap.size w w' := by
  have Hs : Hid _ := not_u32 s hs
  have Ht : Hid _ := not_u32 (4294967295 - s) (by omega)
  go_enter Tryz.func87, Tryz.ntmps87
  go_wp2_with fail
  rw [Hs.out]
  refine wp_loop_rounds 1 ?_
  rw [rounds_succ]
  go_wp2
  go_ret
  rw [Ht.out]
  exact ⟨rfl, (Below.refl _ _).alloc (Nat.le_refl _) _⟩

/-- More: the sum that goes on behind another one. -/
theorem more_at (cap n : Nat) (a : Option Addr) (xs : List UInt8) (s : Nat) (S : Int) (w : World) (hS : S = (s : Int)) (hl : xs.length = n) (hn : n ≤ 9223372036854775807) (hs : s < 4294967296) (hr : Rd w a xs) :
    Calls Tryz.prog 87 #[.int .u32 S, .slice a n cap] w fun e w' => e = .returned (.int .u32 (crc s xs : Nat)) ∧ Below w.heap.size w w' := by
  subst hS
  by_cases h0 : 0 < n
  · obtain ⟨b, o, rfl, hc⟩ := hr (by omega)
    refine more_in b o cap n xs s w hl hn hs (fun j hj => ?_) (block_lt_of_cell (hc 0 (by omega)))
    rw [hc j (by omega)]
    simp [List.getD, List.getElem?_eq_getElem (show j < xs.length by omega)]
  · obtain rfl : n = 0 := by omega
    obtain rfl : xs = [] := List.eq_nil_of_length_eq_zero hl
    exact more_none a cap s w hs

/-- Crc: the remainder. -/
theorem crc_at (cap n : Nat) (a : Option Addr) (xs : List UInt8) (w : World) (hl : xs.length = n) (hn : n ≤ 9223372036854775807) (hr : Rd w a xs) :
    Calls Tryz.prog 75 #[.slice a n cap] w fun e w' => e = .returned (.int .u32 (crc 0 xs : Nat)) ∧ Below w.heap.size w w' := by
  have Hl : Hid _ := hl
  clear hl
  go_enter Tryz.func75, Tryz.ntmps75
  go_wp2_with (go_at_call 87; refine (more_at cap n a xs 0 0 w rfl Hl.out hn (by omega) hr).mono ?_; rintro e w1 ⟨rfl, hb⟩)
  go_ret
  exact ⟨rfl, hb⟩

theorem crc_digits : crc 0 [49, 50, 51, 52, 53, 54, 55, 56, 57] = 3808858755 := by decide +kernel

/-- Bytes of a literal text lie in a new block, whose end is marked. -/
theorem rd_marked (w : World) (fr : Nat × Nat) (xs : List UInt8) : Rd (w.alloc (.cells (bcs xs).toArray 5 fr)) (some ⟨w.heap.size, 0, none⟩) xs := fun _ => ⟨w.heap.size, 0, rfl, fun j hj => by
  rw [Nat.zero_add, cell_of_row _ w.heap.size j _ 5 fr (heap_alloc_new w _)]
  simpa using bcs_getElem? xs j hj⟩

end Go.Proofs.YtdkaacjeogifdaaGreat.Rc

/-
  body: what stands behind the stamps of a head.
-/
namespace Go.Proofs.YtdkaacjeogifdaaGreat.Rc
open Go.RowKit

theorem restB_length (es : List (Nat × List UInt8)) (h : ∀ e ∈ es, e.2.length = 64) (hn : es.length ≤ 32) : (restB es).length = 4026 := by
  unfold restB
  rw [List.length_append, entsB_length es h, nought_length]
  omega
theorem wpList_append_ran {w : World} {ops : Array Oper} {rest : List Oper} {o : Oper} {a : Act} {Q : Exit → Act → World → Prop} (hgd : o.guard = none) (sl x : Operand) (t u : TypeId)
    (ho : o.op = .call { callee := .builtin .append, args := #[sl, x], argTypes := #[t, u] }) (v s v' : Value) (W : World) (hs : a.eval sl = v) (hx : a.eval x = s)
    (hrun : ∀ ty, (Builtin.append_ #[t, u] ty #[v, s]).run Tryz.prog w = .ok v' W) (h : wpList Tryz.prog ops Q rest (a.put o.dst v') W) : wpList Tryz.prog ops Q (o :: rest) a w := by
  refine wpList_plain hgd fun K hK => ?_
  unfold Oper.wp execOp
  simp only [ho, resolve, invoke, builtin, Sem.run_bind, Sem.run_pure, Result.andThen_ok, List.map_toArray, List.map_cons, List.map_nil, hs, hx, hrun]
  exact hK _ _ h


def bodyB (es : List (Nat × List UInt8)) : List UInt8 := toBE 2 es.length ++ toBE 4 (crc 0 (restB es)) ++ restB es
theorem bodyB_length (es : List (Nat × List UInt8)) (h : ∀ e ∈ es, e.2.length = 64) (hn : es.length ≤ 32) : (bodyB es).length = 4032 := by
  unfold bodyB
  simp [toBE_length, restB_length es h hn]

end Go.Proofs.YtdkaacjeogifdaaGreat.Rc

/-
  putHeading: what it does to memory.
-/
namespace Go.Proofs.YtdkaacjeogifdaaGreat.Rc
open Go.RowKit Go.Shelf
attribute [local go_sem] Oper.semAt_some

theorem make_run (n : Nat) (hn : n ≤ 281474976710656) (u : World) : (Instr.makeSlice 22 (.int .i64 (n : Int)) (.int .i64 (n : Int))).run Tryz.prog u =
    .ok (.slice (some ⟨u.heap.size, 0, none⟩) n n) (u.alloc (.cells (bcs (nought n)).toArray 5)) := by
  obtain ⟨i0, hi, hz0, hz1, hz2⟩ := info_parts info5
  have h := run_make (P := Tryz.prog) u 22 5 i0 (.int .u8 0) Tryz.underlying22 hi hz0 .i64 .i64 (n : Int) (n : Int) (by omega) (Int.le_refl _) (by rw [hz2]; omega) (by omega)
  have e : ((n : Int)).toNat = n := by omega
  rw [e, hz1, Nat.mul_one] at h
  have e2 : madeCells #[.int .u8 0] n = (bcs (nought n)).toArray := made_zero n
  rw [← e2]
  exact h


/-- copy, where what is copied may be longer than where it goes -/
theorem copy_row2 (g cap off dLen dCap : Nat) (a : Option Addr) (sLen sCap : Nat) (xs ys : List UInt8) (u : World) (hg : RowB u g cap ys) (hr : Rd u a xs) (hl : xs.length = Nat.min sLen dLen) (hfit : off + xs.length ≤ ys.length) (h0 : 0 < xs.length) :
    ∃ W, (∀ ty, (Builtin.copy_ #[22, 22] ty #[.slice (some ⟨g, off, none⟩) dLen dCap, .slice a sLen sCap]).run Tryz.prog u = .ok (goInt xs.length) W) ∧ RowB W g cap (over ys off xs) ∧ u.grownBy W (some g) := by
  obtain ⟨b, o, rfl, hc⟩ := hr h0
  obtain ⟨W, h1, h2, h3⟩ := copy_row g cap off xs.length dCap (some ⟨b, o, none⟩) sCap xs ys u hg hr (Nat.le_refl _) hfit h0
  obtain ⟨cur, hb, hlc, hm, hs, ht⟩ := hg
  have hsrc : ∀ j v, (bcs xs)[j]? = some v → u.cell? ((⟨b, o, none⟩ : Addr).add j) = some v := fun j v hj => by
    have hj' : j < xs.length := by have := (List.getElem?_eq_some_iff.1 hj).1; simpa [bcs_length] using this
    rw [bcs_getElem? xs j hj'] at hj
    rw [Addr.add_lit, hc j hj']
    exact hj
  have k1 := fun ty => run_copy_row (P := Tryz.prog) u 22 22 ty 5 g off dLen dCap ⟨b, o, none⟩ sLen sCap cur 5 (bcs xs) Tryz.underlying22 size5 hb (by rw [bcs_length]; exact hl) hsrc (by rw [bcs_length]; omega) (bcs_oneCell xs)
  have k2 := run_copy_row (P := Tryz.prog) u 22 22 0 5 g off xs.length dCap ⟨b, o, none⟩ xs.length sCap cur 5 (bcs xs) Tryz.underlying22 size5 hb (by rw [bcs_length]; exact (Nat.min_self _).symm) hsrc (by rw [bcs_length]; omega) (bcs_oneCell xs)
  refine ⟨W, fun ty => ?_, h2, h3⟩
  rw [k1 ty]
  rw [h1 0] at k2
  rw [bcs_length] at k2 ⊢
  exact k2.symm

/-- one sector of a head -/
def putStep (M BB : List UInt8) (st : List UInt8 × Nat) (x : Fin 8) : List UInt8 × Nat := (over (over st.1 (x.val * 512) M) (x.val * 512 + 8) ((BB.drop (st.2 * 504)).take 504), st.2 + 1)
def putTo (Z M BB : List UInt8) (pre : List (Fin 8)) : List UInt8 × Nat := pre.foldl (putStep M BB) (Z, 0)
theorem putTo_snoc (Z M BB : List UInt8) (pre : List (Fin 8)) (x : Fin 8) : putTo Z M BB (pre ++ [x]) = putStep M BB (putTo Z M BB pre) x := by simp [putTo]
theorem putTo_two (Z M BB : List UInt8) (pre : List (Fin 8)) : (putTo Z M BB pre).2 = pre.length := by
  unfold putTo
  have : ∀ (pre : List (Fin 8)) (st : List UInt8 × Nat), (pre.foldl (putStep M BB) st).2 = st.2 + pre.length := by
    intro pre
    induction pre with
    | nil => intro st; rfl
    | cons x pre ih =>
      intro st
      rw [List.foldl_cons, ih]
      simp [putStep]
      omega
  rw [this]
  simp
theorem putTo_length (Z M BB : List UInt8) (hl : Z.length = 4096) (hm : M.length = 8) (hb : BB.length = 4032) (pre : List (Fin 8)) (_ : pre.length ≤ 8) : (putTo Z M BB pre).1.length = 4096 := by
  unfold putTo
  have : ∀ (pre : List (Fin 8)) (st : List UInt8 × Nat), st.1.length = 4096 → (pre.foldl (putStep M BB) st).1.length = 4096 := by
    intro pre
    induction pre with
    | nil => intro st h; exact h
    | cons x pre ih =>
      intro st h
      have hx := x.isLt
      rw [List.foldl_cons]
      refine ih _ ?_
      unfold putStep
      have h1 : (over st.1 (x.val * 512) M).length = 4096 := by rw [over_length _ _ _ (by rw [h, hm]; omega)]; exact h
      rw [over_length _ _ _ (by rw [h1]; simp [hb]; omega)]
      exact h1
  exact this pre _ hl

/-- what stands in memory while the sectors come -/
def PutI (h g4 gr cv b8 b9 k1 : Nat) (M BB d : List UInt8) (k : Nat) (W : World) : Prop :=
  RowB W h 4096 d ∧ Box W b8 #[.slice (some ⟨g4, 0, none⟩) 8 8] 22 ∧ (∃ o', Box W b9 #[.slice (some ⟨gr, o', none⟩) (4032 - k * 504) (cv - k * 504)] 22 ∧ (k < 8 → o' = k * 504)) ∧ Own W g4 M ∧ RowB W gr cv BB ∧ ∃ cs, Box W k1 cs 22
theorem PutI.kept {h g4 gr cv b8 b9 k1 : Nat} {M BB d : List UInt8} {k : Nat} {A B : World} {row : Option Nat} (hI : PutI h g4 gr cv b8 b9 k1 M BB d k A) (hg : A.grownBy B row) (hr : ∀ r, row = some r → ∃ o : Obj, A.heap[r]? = some o ∧ o.isCells = false) : PutI h g4 gr cv b8 b9 k1 M BB d k B := by
  obtain ⟨a1, a2, ⟨o', a3, a4⟩, a5, a6, cs, a7⟩ := hI
  exact ⟨a1.kept hg hr, a2.kept hg hr, ⟨o', a3.kept hg hr, a4⟩, Box.kept a5 hg hr, a6.kept hg hr, cs, a7.kept hg hr⟩

theorem puth_round (w W : World) (h g4 gr cv b8 b9 k1 k : Nat) (M BB d : List UInt8) (x : Fin 8) (z8 : w.heap.size + 2 ≤ b8) (z9 : w.heap.size + 2 ≤ b9) (zk : b9 ≠ k1) (hne : b9 ≠ b8) (hk : k < 8) (hd : d.length = 4096) (hm : M.length = 8) (hb : BB.length = 4032) (hc1 : 4032 ≤ cv) (hc2 : cv ≤ 9223372036854775807)
    (hh : h = w.heap.size + 1) (zg : g4 ≠ h) (zr : gr ≠ h)
    (hI : PutI h g4 gr cv b8 b9 k1 M BB d k W) (hB : Below w.heap.size w W) :
    ∃ W5 W6 L C, (∀ ty, (Builtin.copy_ #[22, 22] ty #[.slice (some ⟨h, x.val * 512, none⟩) 512 512, .slice (some ⟨g4, 0, none⟩) 8 8]).run Tryz.prog W = .ok (goInt 8) W5) ∧
      (∀ ty, (Builtin.copy_ #[22, 22] ty #[.slice (some ⟨h, x.val * 512 + 8, none⟩) 504 504, .slice (some ⟨gr, k * 504, none⟩) L C]).run Tryz.prog W5.drew = .ok (goInt 504) W6) ∧
      W.cell? ⟨b8, 0, none⟩ = some (.slice (some ⟨g4, 0, none⟩) 8 8) ∧ W5.cell? ⟨b9, 0, none⟩ = some (.slice (some ⟨gr, k * 504, none⟩) L C) ∧ W6.cell? ⟨b9, 0, none⟩ = some (.slice (some ⟨gr, k * 504, none⟩) L C) ∧ W6.frozen? ⟨b9, 0, none⟩ = false ∧
      (504 ≤ L ∧ 504 ≤ C ∧ L ≤ C ∧ C ≤ 9223372036854775807 ∧ (k + 1 < 8 → C ≠ 504)) ∧
      ∀ v', (∃ o', v' = .slice (some ⟨gr, o', none⟩) (L - 504) (C - 504) ∧ (k + 1 < 8 → o' = (k + 1) * 504)) →
        KeepsOthers W (W6.setCell ⟨b9, 0, none⟩ v') ∧ CellK k1 W (W6.setCell ⟨b9, 0, none⟩ v') ∧ PutI h g4 gr cv b8 b9 k1 M BB (over (over d (x.val * 512) M) (x.val * 512 + 8) ((BB.drop (k * 504)).take 504)) (k + 1) (W6.setCell ⟨b9, 0, none⟩ v') ∧ Below w.heap.size w (W6.setCell ⟨b9, 0, none⟩ v') := by
  obtain ⟨a1, a2, ⟨o', a3, a4⟩, a5, a6, cs, a7⟩ := hI
  obtain rfl := a4 hk
  have hx8 := x.isLt
  have n8 : b8 ≠ h := by omega
  have n9 : b9 ≠ h := by omega
  have nk : k1 ≠ h := by
    obtain ⟨cur, q, _⟩ := a1
    exact fun e => q.ne a7 (by decide) e.symm
  obtain ⟨W5, r5, row5, g5⟩ := copy_row h 4096 (x.val * 512) 512 512 (some ⟨g4, 0, none⟩) 8 M d W a1 a5.rd (by omega) (by omega) (by omega)
  rw [hm] at r5
  have b5 : Box W5 b9 _ 22 := a3.grown g5 (fun e => n9 (by cases e; rfl))
  have t5 : ((BB.drop (k * 504)).take 504).length = 504 := by simp; omega
  have rd5 : Rd W5.drew (some ⟨gr, k * 504, none⟩) ((BB.drop (k * 504)).take 504) := by
    have := ((a6.grown g5 (fun e => zr (by cases e; rfl))).rd).part (k * 504) 504
    rw [Nat.zero_add] at this
    exact this
  have hl5 : (over d (x.val * 512) M).length = 4096 := by rw [over_length _ _ _ (by omega)]; exact hd
  obtain ⟨W6, r6, row6, g6⟩ := copy_row2 h 4096 (x.val * 512 + 8) 504 504 (some ⟨gr, k * 504, none⟩) (4032 - k * 504) (cv - k * 504) _ _ W5.drew (show RowB W5.drew h 4096 _ from row5) rd5 (by rw [t5]; exact (Nat.min_eq_right (by omega)).symm) (by omega) (by omega)
  rw [t5] at r6
  have b6 : Box W6 b9 _ 22 := Box.grown (w := W5.drew) b5 g6 (fun e => n9 (by cases e; rfl))
  have B5 := hB.grown g5 hB.size (fun j e => by cases e; omega)
  have B6 : Below w.heap.size w W6 := B5.drew.grown g6 B5.size (fun j e => by cases e; omega)
  have k5 : KeepsOthers W W5 := by obtain ⟨cur, q, _⟩ := a1; exact keeps_grown q g5
  have k6 : KeepsOthers W5.drew W6 := by obtain ⟨cur, q, _⟩ := row5; exact keeps_grown (A := W5.drew) q g6
  refine ⟨W5, W6, 4032 - k * 504, cv - k * 504, r5, r6, a2.cell 0, b5.cell 0, b6.cell 0, b6.frozen 0, ⟨by omega, by omega, by omega, by omega, by omega⟩, ?_⟩
  rintro v' ⟨o', rfl, ho⟩
  have st : ∀ {g : Nat} {cs : Array Value} {t : TypeId}, Box W g cs t → g ≠ h → g ≠ b9 → Box (W6.setCell ⟨b9, 0, none⟩ (.slice (some ⟨gr, o', none⟩) (4032 - k * 504 - 504) (cv - k * 504 - 504))) g cs t := fun hb h1 h2 =>
    (heap_setCell_other W6 ⟨b9, 0, none⟩ _ _ h2).trans (Box.grown (w := W5.drew) (show Box W5 _ _ _ from hb.grown g5 (fun e => h1 (Option.some.inj e).symm)) g6 (fun e => h1 (Option.some.inj e).symm))
  refine ⟨((k5.trans (KeepsOthers.drew W5)).trans k6).trans (KeepsOthers.setCell _ _ _), ?_, ⟨rowB_store row6 b6 (by decide) _, st a2 n8 (fun e => hne e.symm), ⟨o', ?_, ho⟩, st a5 zg (fun e => ?_), ?_, cs, st a7 nk (fun e => zk e.symm)⟩, B6.setCell (p := ⟨b9, 0, none⟩) (by show w.heap.size ≤ b9; omega) _⟩
  · exact ((st a7 nk (fun e => zk e.symm)).cell 0).trans (a7.cell 0).symm
  · have := b6.store 0 (.slice (some ⟨gr, o', none⟩) (4032 - k * 504 - 504) (cv - k * 504 - 504))
    have e1 : 4032 - (k + 1) * 504 = 4032 - k * 504 - 504 := by omega
    have e2 : cv - (k + 1) * 504 = cv - k * 504 - 504 := by omega
    rw [e1, e2]
    simpa using this
  · exact Box.ne (t := 5) (t' := 22) a5 a3 (by decide) e
  · obtain ⟨cur, q, rest⟩ := a6
    exact ⟨cur, st q zr (q.ne a3 (by decide)), rest⟩


theorem owns_below {w w' : World} {base e size n : Nat} {v : Value} {xs : List Value} (h : w.ownsRow base e size v n xs) (hb : Below w.heap.size w w') : w'.ownsRow base e size v n xs := by
  refine ⟨h.1, ?_⟩
  rcases h.2 with h | ⟨g, cap, cur, e1, e2, e3, e4⟩
  · exact .inl h
  · exact .inr ⟨g, cap, cur, e1, e2, (hb.block g (Array.getElem?_eq_some_iff.1 e3).1).trans e3, e4⟩
theorem owns_base {w : World} {base base' e size n : Nat} {v : Value} {xs : List Value} (h : w.ownsRow base e size v n xs) (hb : base' ≤ base) : w.ownsRow base' e size v n xs := by
  refine ⟨h.1, ?_⟩
  rcases h.2 with h | ⟨g, cap, cur, e1, e2, e3⟩
  · exact .inl h
  · exact .inr ⟨g, cap, cur, e1, Nat.le_trans hb e2, e3⟩
theorem Own.other {w : World} {g b : Nat} {ys : List UInt8} {j : Nat} {u : Value} (h : Own w g ys) (hne : g ≠ b) : Own (w.setCell ⟨b, j, none⟩ u) g ys := (heap_setCell_other w ⟨b, j, none⟩ g u hne).trans h

/-- the stamp and the rest, each in a box -/
def PutHI (k0 g4 b8 b9 : Nat) (av : Option Addr) (cv : Nat) (M BB : List UInt8) (W : World) : Prop :=
  (k0 ≤ b8 ∧ k0 ≤ b9 ∧ b9 ≠ b8) ∧ Box W b8 #[.slice (some ⟨g4, 0, none⟩) 8 8] 22 ∧ Box W b9 #[.slice av 4032 cv] 22 ∧ (k0 ≤ g4 ∧ Own W g4 M) ∧ W.ownsRow k0 5 1 (.slice av 4032 cv) 4032 (bcs BB)

theorem putHI_end {V : World} {k0 g4 b8 b9 : Nat} {av : Option Addr} {cv : Nat} {M BB : List UInt8} (hne : b9 ≠ b8) (z8 : k0 ≤ b8) (z9 : k0 ≤ b9) (z4 : k0 ≤ g4) (m4 : Own V g4 M) (r7 : V.ownsRow k0 5 1 (.slice av 4032 cv) 4032 (bcs BB))
    (p8 : Box V b8 #[.slice none 0 0] 22) (p9 : Box V b9 #[.slice none 0 0] 22) : PutHI k0 g4 b8 b9 av cv M BB ((V.setCell ⟨b8, 0, none⟩ (.slice (some ⟨g4, 0, none⟩) 8 8)).setCell ⟨b9, 0, none⟩ (.slice av 4032 cv)) := by
  have q8 : Box (V.setCell ⟨b8, 0, none⟩ (.slice (some ⟨g4, 0, none⟩) 8 8)) b8 #[.slice (some ⟨g4, 0, none⟩) 8 8] 22 := by have := p8.store 0 (.slice (some ⟨g4, 0, none⟩) 8 8); simpa using this
  have q9 : Box (V.setCell ⟨b8, 0, none⟩ (.slice (some ⟨g4, 0, none⟩) 8 8)) b9 #[.slice none 0 0] 22 := (heap_setCell_other V ⟨b8, 0, none⟩ b9 _ hne).trans p9
  have n8 : g4 ≠ b8 := Box.ne (t := 5) (t' := 22) m4 p8 (by decide)
  have n9 : g4 ≠ b9 := Box.ne (t := 5) (t' := 22) m4 p9 (by decide)
  have nr : ∀ g, (Value.slice av 4032 cv).ownBlock = some g → g ≠ b8 ∧ g ≠ b9 := fun g hg => by
    obtain ⟨_, cur, q⟩ := owns_block r7 g hg
    exact ⟨q.ne p8 (by decide), q.ne p9 (by decide)⟩
  refine ⟨⟨z8, z9, hne⟩, (heap_setCell_other _ ⟨b9, 0, none⟩ b8 _ (fun h => hne h.symm)).trans q8, ?_, ⟨z4, Own.other (Own.other m4 n8) n9⟩, ?_⟩
  · have := q9.store 0 (.slice av 4032 cv); simpa using this
  · exact owns_grown (owns_grown r7 (grown_store V b8 0 _) (fun g hg e => (nr g hg).1 (by cases e; rfl))) (grown_store _ b9 0 _) (fun g hg e => (nr g hg).2 (by cases e; rfl))

end Go.Proofs.YtdkaacjeogifdaaGreat.Rc

/-
  putHeading.
-/
namespace Go.Proofs.YtdkaacjeogifdaaGreat.Rc
open Go.RowKit Go.Shelf
attribute [local go_sem] Oper.semAt_some

/-- a head -/
def headB (e s : Nat) (es : List (Nat × List UInt8)) : List UInt8 := (putTo (nought 4096) (mark e s) (bodyB es) (List.finRange 8)).1

end Go.Proofs.YtdkaacjeogifdaaGreat.Rc

/-
  hide.
-/
namespace Go.Proofs.YtdkaacjeogifdaaGreat.Rc
open Go.RowKit Go.Shelf
attribute [local go_sem] Oper.semAt_some

end Go.Proofs.YtdkaacjeogifdaaGreat.Rc

/-
  entriesOf.
-/
namespace Go.Proofs.YtdkaacjeogifdaaGreat.Rc
open Go.RowKit

theorem two_cells {w : World} {g : Nat} {c0 c1 : Value} {t : TypeId} (h : Box w g #[c0, c1] t) : ∀ j u, ([c0, c1] : List Value)[j]? = some u → w.cell? ((⟨g, 0, none⟩ : Addr).add j) = some u := fun j u hj => by
  rw [Addr.add_lit, Nat.zero_add, h.cell j]
  simpa using hj

/-- entry i of a body -/
def entOf (BB : List UInt8) (i : Nat) : Nat × List UInt8 := (beNat ((BB.drop (6 + i * 66)).take 2), (BB.drop (8 + i * 66)).take 64)
def entsOf (BB : List UInt8) (n : Nat) : List (Nat × List UInt8) := (List.range n).map (entOf BB)
theorem entsOf_length (BB : List UInt8) (n : Nat) : (entsOf BB n).length = n := by simp [entsOf]
def entCell (BB : List UInt8) (g o cap i : Nat) : List Value := [.int .i64 ((entOf BB i).1 : Int), .slice (some ⟨g, o + (8 + i * 66), none⟩) 64 (cap - (8 + i * 66))]
def entCells (BB : List UInt8) (g o cap n : Nat) : List Value := (List.range n).flatMap (entCell BB g o cap)
theorem entCells_succ (BB : List UInt8) (g o cap n : Nat) : entCells BB g o cap (n + 1) = entCells BB g o cap n ++ entCell BB g o cap n := by simp [entCells, List.range_succ]
theorem entCells_at (BB : List UInt8) (g o cap n i : Nat) (h : i < n) : (entCells BB g o cap n)[i * 2]? = some (.int .i64 ((entOf BB i).1 : Int)) ∧ (entCells BB g o cap n)[i * 2 + 1]? = some (.slice (some ⟨g, o + (8 + i * 66), none⟩) 64 (cap - (8 + i * 66))) := by
  have hl : ∀ n, (entCells BB g o cap n).length = n * 2 := by
    intro n
    induction n with
    | zero => rfl
    | succ n ih => rw [entCells_succ, List.length_append, ih]; simp [entCell]; omega
  induction n with
  | zero => omega
  | succ n ih =>
    rw [entCells_succ]
    by_cases hi : i < n
    · obtain ⟨a, b⟩ := ih hi
      rw [List.getElem?_append_left (by rw [hl]; omega), List.getElem?_append_left (by rw [hl]; omega)]
      exact ⟨a, b⟩
    · obtain rfl : i = n := by omega
      rw [List.getElem?_append_right (by rw [hl]; omega), List.getElem?_append_right (by rw [hl]; omega), hl]
      have e1 : i * 2 - i * 2 = 0 := by omega
      have e2 : i * 2 + 1 - i * 2 = 1 := by omega
      rw [e1, e2]
      exact ⟨rfl, rfl⟩

/-- how many a body says -/
def cntOf (BB : List UInt8) : Nat := beNat (BB.take 2)

theorem numAt_body (BB : List UInt8) (k : Nat) (hl : BB.length = 4032) (h : k + 2 ≤ 4032) : numAt BB (k : Int) 2 = some (beNat ((BB.drop k).take 2)) := numAt_some (by omega)
theorem be2_lt (l : List UInt8) : beNat (l.take 2) < 65536 := by
  have h := beNat_lt (l.take 2)
  have h2 : (l.take 2).length ≤ 2 := by simp; omega
  exact Nat.lt_of_lt_of_le h (by
    have : 256 ^ (l.take 2).length ≤ 256 ^ 2 := Nat.pow_le_pow_right (by omega) h2
    omega)

/-- the row as entries -/
theorem entsOf_ents {w w' : World} {g o cap : Nat} {BB : List UInt8} {v : Value} (hl : BB.length = 4032) (hcap : 4032 ≤ cap) (hmax : cap ≤ 9223372036854775807) (hr : Rd w' (some ⟨g, o, none⟩) BB) (hc : cntOf BB ≤ 32)
    (hown : w'.ownsRow w.heap.size 62 2 v (cntOf BB) (entCells BB g o cap (cntOf BB))) : ∃ a c, v = .slice a (cntOf BB) c ∧ Ents w' a (entsOf BB (cntOf BB)) := by
  obtain ⟨a, c, rfl⟩ := owns_shape hown
  refine ⟨a, c, rfl, fun hp => ?_⟩
  rw [entsOf_length] at hp
  rcases hown.2 with ⟨hv, hn⟩ | ⟨gv, cap', cur, hv, _⟩
  · omega
  · have ha : a = some ⟨gv, 0, none⟩ := by simpa using (Value.slice.inj hv).1
    subst ha
    refine ⟨gv, 0, rfl, fun j hj => ?_⟩
    rw [entsOf_length] at hj
    obtain ⟨e1, e2⟩ := entCells_at BB g o cap (cntOf BB) j hj
    have hb : (Value.slice (some ⟨gv, 0, none⟩) (cntOf BB) c).ownBlock = some gv := rfl
    have k1 := hown.cells hb _ _ e1
    have k2 := hown.cells hb _ _ e2
    rw [Addr.add_lit] at k1 k2
    have hx : (entsOf BB (cntOf BB))[j]'(by rw [entsOf_length]; exact hj) = entOf BB j := by simp [entsOf]
    rw [hx]
    refine ⟨k1, g, o + (8 + j * 66), cap - (8 + j * 66), ?_, by omega, by omega, by simp [entOf]; omega, hr.part (8 + j * 66) 64⟩
    rw [Nat.add_assoc]
    exact k2
end Go.Proofs.YtdkaacjeogifdaaGreat.Rc

/-
  rightHeading.
-/
namespace Go.Proofs.YtdkaacjeogifdaaGreat.Rc
open Go.RowKit

/-- the blocks of entries lie here -/
def Blks (w : World) (a : Option Addr) (bs : List Int) : Prop :=
  0 < bs.length → ∃ b o, a = some ⟨b, o, none⟩ ∧ ∀ j (h : j < bs.length), w.cell? ⟨b, o + j * 2, none⟩ = some (.int .i64 bs[j]) ∧ ∃ x l c, w.cell? ⟨b, o + j * 2 + 1, none⟩ = some (.slice x l c)
theorem Blks.below {w w' : World} {a : Option Addr} {bs : List Int} (h : Blks w a bs) (hb : Below w.heap.size w w') : Blks w' a bs := fun hp => by
  obtain ⟨b, o, ha, hc⟩ := h hp
  refine ⟨b, o, ha, fun j hj => ?_⟩
  obtain ⟨h1, x, l, c, h2⟩ := hc j hj
  have hlt : b < w.heap.size := block_lt_of_cell h1
  exact ⟨(hb.cell (p := ⟨b, o + j * 2, none⟩) hlt).trans h1, x, l, c, (hb.cell (p := ⟨b, o + j * 2 + 1, none⟩) hlt).trans h2⟩
theorem Ents.blks {w : World} {a : Option Addr} {es : List (Nat × List UInt8)} (h : Ents w a es) : Blks w a (es.map fun e => (e.1 : Int)) := fun hp => by
  rw [List.length_map] at hp
  obtain ⟨b, o, ha, hc⟩ := h hp
  refine ⟨b, o, ha, fun j hj => ?_⟩
  rw [List.length_map] at hj
  obtain ⟨h1, g, q, c, h2, _⟩ := hc j hj
  exact ⟨by rw [List.getElem_map]; exact h1, _, _, _, h2⟩

/-- unlike blocks of a disk -/
def okTo (bs : List Int) (k : Nat) : Prop := ∀ j (h : j < bs.length), j < k → (0 ≤ bs[j] ∧ bs[j] ≤ 511) ∧ bs[j] ∉ bs.take j
def okHead (e s : Int) (bs : List Int) : Prop := okStamp e s = true ∧ (1 ≤ bs.length ∧ bs.length ≤ 32) ∧ okTo bs bs.length

/-- which blocks were met -/
def tk (bs : List Int) (k : Nat) : List Bool := (List.range 512).map fun (i : Nat) => decide ((i : Int) ∈ bs.take k)
theorem tk_length (bs : List Int) (k : Nat) : (tk bs k).length = 512 := by simp [tk]
theorem tk_at (bs : List Int) (k m : Nat) (h : m < 512) : (tk bs k)[m]? = some (decide ((m : Int) ∈ bs.take k)) := by simp [tk, h]
theorem tk_set (bs : List Int) (k m : Nat) (hk : k < bs.length) (hm : bs[k] = (m : Int)) (h : m < 512) : (tk bs k).set m true = tk bs (k + 1) := by
  apply List.ext_getElem?
  intro i
  rw [List.getElem?_set]
  by_cases hi : i < 512
  · rw [tk_at bs (k + 1) i hi, tk_at bs k i hi, tk_length, List.take_succ_eq_append_getElem hk, hm]
    by_cases he : m = i
    · subst he
      simp [h]
    · simp [he]
      omega
  · rw [List.getElem?_eq_none (by rw [tk_length]; omega), List.getElem?_eq_none (by rw [tk_length]; omega)]
    split <;> simp_all
def tkc (bs : List Int) (k : Nat) : Array Value := ((tk bs k).map Value.bool).toArray
theorem okTo_succ {bs : List Int} {k : Nat} (hk : k < bs.length) (h : okTo bs k) (h1 : 0 ≤ bs[k] ∧ bs[k] ≤ 511) (h2 : bs[k] ∉ bs.take k) : okTo bs (k + 1) := fun j hj hlt => by
  by_cases he : j < k
  · exact h j hj he
  · obtain rfl : j = k := by omega
    exact ⟨h1, h2⟩

end Go.Proofs.YtdkaacjeogifdaaGreat.Rc

/-
  rightHeading, of any heading; rightGroup.
-/
namespace Go.Proofs.YtdkaacjeogifdaaGreat.Rc
open Go.RowKit

theorem owns_belowH {w w' : World} {base e size n : Nat} {v : Value} {xs : List Value} (h : w.ownsRow base e size v n xs) (hb : Below w.heap.size w w') : w'.ownsRow base e size v n xs := by
  refine ⟨h.1, ?_⟩
  rcases h.2 with h | ⟨g, cap, cur, e1, e2, e3, e4⟩
  · exact .inl h
  · exact .inr ⟨g, cap, cur, e1, e2, (hb.block g (Array.getElem?_eq_some_iff.1 e3).1).trans e3, e4⟩

/-- an image lies here -/
def ImgAt (w : World) (b o : Nat) (i : Int × List UInt8) : Prop :=
  w.cell? ⟨b, o, none⟩ = some (.int .i64 i.1) ∧ ∃ x c, w.cell? ⟨b, o + 1, none⟩ = some (.slice x i.2.length c) ∧ i.2.length ≤ c ∧ c ≤ 9223372036854775807 ∧ (x = none → c = 0) ∧ Rd w x i.2
/-- images, one behind the other -/
def Imgs (w : World) (a : Option Addr) (is : List (Int × List UInt8)) : Prop :=
  0 < is.length → ∃ b o, a = some ⟨b, o, none⟩ ∧ ∀ j (h : j < is.length), ImgAt w b (o + j * 2) is[j]
theorem ImgAt.below {w w' : World} {b o : Nat} {i : Int × List UInt8} (h : ImgAt w b o i) (hb : Below w.heap.size w w') : ImgAt w' b o i := by
  obtain ⟨h1, x, c, h2, h3, h4, h5, h6⟩ := h
  have hlt : b < w.heap.size := block_lt_of_cell h1
  exact ⟨(hb.cell (p := ⟨b, o, none⟩) hlt).trans h1, x, c, (hb.cell (p := ⟨b, o + 1, none⟩) hlt).trans h2, h3, h4, h5, h6.below hb (Nat.le_refl _)⟩
theorem Imgs.below {w w' : World} {a : Option Addr} {is : List (Int × List UInt8)} (h : Imgs w a is) (hb : Below w.heap.size w w') : Imgs w' a is := fun hp => by
  obtain ⟨b, o, ha, hc⟩ := h hp
  exact ⟨b, o, ha, fun j hj => (hc j hj).below hb⟩

def blkCells (bs : List Int) : List Value := bs.flatMap fun b => [.int .i64 b, .slice none 0 0]
theorem blkCells_at (bs : List Int) (i : Nat) (h : i < bs.length) : (blkCells bs)[i * 2]? = some (.int .i64 bs[i]) ∧ (blkCells bs)[i * 2 + 1]? = some (.slice none 0 0) := by
  induction bs generalizing i with
  | nil => simp at h
  | cons b bs ih =>
    cases i with
    | zero => exact ⟨rfl, rfl⟩
    | succ i =>
      obtain ⟨p, q⟩ := ih i (by simpa using h)
      have e1 : (i + 1) * 2 = i * 2 + 1 + 1 := by omega
      simp only [blkCells, List.flatMap_cons, e1, List.cons_append, List.nil_append, List.getElem?_cons_succ, List.getElem_cons_succ]
      exact ⟨p, q⟩

def okGroup (e s : Int) (is : List (Int × List UInt8)) : Prop := okHead e s (is.map (·.1)) ∧ ∀ i ∈ is, i.2.length = 4096

end Go.Proofs.YtdkaacjeogifdaaGreat.Rc

/-
  Put.
-/
namespace Go.Proofs.YtdkaacjeogifdaaGreat.Rc
open Go.RowKit

theorem info31 : (Tryz.prog.info? 22).map (fun i => (i.zero, i.size, i.bytes)) = some (some (.slice none 0 0), 1, 24) := by kernel_rfl

/-- what was made of an image: its block (h, c), what is hidden (q, d) -/
structure PP where
  b : Int
  xs : List UInt8
  h : Nat
  c : Nat
  q : Nat
  d : Nat
def stB (M xs : List UInt8) : List UInt8 := (hideTo xs M (List.finRange 8)).1
def hdB (M xs : List UInt8) : List UInt8 := (hideTo xs M (List.finRange 8)).2
def rowC (ps : List PP) : List Value := ps.map fun p => .slice (some ⟨p.h, 0, none⟩) 4096 p.c
def entC (ps : List PP) : List Value := ps.flatMap fun p => [.int .i64 p.b, .slice (some ⟨p.q, 0, none⟩) 64 p.d]
theorem entC_length (ps : List PP) : (entC ps).length = ps.length * 2 := by
  induction ps with
  | nil => rfl
  | cons p ps ih => simp only [entC, List.flatMap_cons, List.length_append, List.length_cons, List.length_nil] at ih ⊢; omega
theorem entC_at (ps : List PP) (i : Nat) (h : i < ps.length) : (entC ps)[i * 2]? = some (.int .i64 ps[i].b) ∧ (entC ps)[i * 2 + 1]? = some (.slice (some ⟨ps[i].q, 0, none⟩) 64 ps[i].d) := by
  induction ps generalizing i with
  | nil => simp at h
  | cons p ps ih =>
    cases i with
    | zero => exact ⟨rfl, rfl⟩
    | succ i =>
      obtain ⟨u, v⟩ := ih i (by simpa using h)
      have e1 : (i + 1) * 2 = i * 2 + 1 + 1 := by omega
      simp only [entC, List.flatMap_cons, e1, List.cons_append, List.nil_append, List.getElem?_cons_succ, List.getElem_cons_succ]
      exact ⟨u, v⟩

/-- their entries -/
def esOf (M : List UInt8) (ps : List PP) : List (Nat × List UInt8) := ps.map fun p => (p.b.toNat, hdB M p.xs)

/-- all of them in memory -/
structure PutJ (M : List UInt8) (B : Nat) (W : World) (ps : List PP) : Prop where
  rows : ∀ p ∈ ps, RowB W p.h p.c (stB M p.xs) ∧ RowB W p.q p.d (hdB M p.xs) ∧ B ≤ p.h ∧ B ≤ p.q
  apart : (ps.map PP.h).Nodup
theorem PutJ.mono {M : List UInt8} {B : Nat} {W W' : World} {ps : List PP} (h : PutJ M B W ps) (hk : ∀ g cur, Box W g cur 5 → W'.heap[g]? = W.heap[g]?) : PutJ M B W' ps :=
  ⟨fun p hp => by
    obtain ⟨a1, a2, a3⟩ := h.rows p hp
    refine ⟨a1.same ?_, a2.same ?_, a3⟩
    · obtain ⟨cur, q, _⟩ := a1; exact hk _ _ q
    · obtain ⟨cur, q, _⟩ := a2; exact hk _ _ q, h.apart⟩
theorem PutJ.below {M : List UInt8} {B : Nat} {W W' : World} {ps : List PP} (h : PutJ M B W ps) (hb : Below W.heap.size W W') : PutJ M B W' ps := h.mono fun g _ q => hb.block g q.lt
theorem PutJ.grown {M : List UInt8} {B base e size n : Nat} {W W' : World} {ps : List PP} {v : Value} {xs : List Value} (h : PutJ M B W ps) (ho : W.ownsRow base e size v n xs) (he : (5 : TypeId) ≠ e) (hg : W.grownBy W' v.ownBlock) : PutJ M B W' ps := h.mono fun g cur q => hg.block g q.lt (fun eq => by
  obtain ⟨_, c2, q2⟩ := owns_block ho g eq.symm
  exact q.ne q2 he rfl)
theorem PutJ.store {M : List UInt8} {B b j : Nat} {W : World} {ps : List PP} {cs : Array Value} {t : TypeId} (h : PutJ M B W ps) (hb : Box W b cs t) (ht : (5 : TypeId) ≠ t) (u : Value) : PutJ M B (W.setCell ⟨b, j, none⟩ u) ps := h.mono fun g _ q => heap_setCell_other W ⟨b, j, none⟩ g u (q.ne hb ht)
theorem PutJ.snoc {M : List UInt8} {B : Nat} {W W' : World} {ps : List PP} (h : PutJ M B W ps) (hb : Below W.heap.size W W') (p : PP) (h1 : RowB W' p.h p.c (stB M p.xs)) (h2 : RowB W' p.q p.d (hdB M p.xs)) (h3 : W.heap.size ≤ p.h) (h4 : W.heap.size ≤ p.q) (hB : B ≤ W.heap.size) : PutJ M B W' (ps ++ [p]) :=
  ⟨fun x hx => by
    rcases List.mem_append.1 hx with hx | hx
    · exact (h.below hb).rows x hx
    · simp at hx
      subst hx
      exact ⟨h1, h2, by omega, by omega⟩, by
    rw [List.map_append, List.nodup_append]
    refine ⟨h.apart, by simp, fun x hx y hy => ?_⟩
    obtain ⟨z, hz, rfl⟩ := List.mem_map.1 hx
    simp at hy
    subst hy
    have := (h.rows z hz).1.lt
    omega⟩

end Go.Proofs.YtdkaacjeogifdaaGreat.Rc

/-
  bodyOf.
-/
namespace Go.Proofs.YtdkaacjeogifdaaGreat.Rc
open Go.RowKit Go.Shelf
attribute [local go_sem] Oper.semAt_some

/-- what stands behind the stamps of these sectors -/
def bodyTo (xs : List UInt8) (pre : List (Fin 8)) : List UInt8 := pre.flatMap fun x => (sec xs x.val).drop 8
theorem bodyTo_snoc (xs : List UInt8) (pre : List (Fin 8)) (x : Fin 8) : bodyTo xs (pre ++ [x]) = bodyTo xs pre ++ (sec xs x.val).drop 8 := by simp [bodyTo]

/-- one round's work on memory -/
theorem bodyOf_round (w W : World) (k0 k1 : Nat) (cs : Array Value) (xs : List UInt8) (pre : List (Fin 8)) (v : Value) (x : Fin 8) (h01 : k0 < k1) (hw : w.heap.size < k0) (hB : Below w.heap.size w W)
    (hv : Box W k0 #[v] 22) (hown : W.ownsRow w.heap.size 5 1 v (pre.length * 504) (bcs (bodyTo xs pre))) (hk : Box W k1 cs 22)
    (v' : Value) (w2 : World) (hown2 : w2.ownsRow w.heap.size 5 1 v' (pre.length * 504 + 504) (bcs (bodyTo xs pre) ++ bcs ((sec xs x.val).drop 8))) (hg2 : W.drew.grownBy w2 v.ownBlock) :
    w2.cell? ⟨k0, 0, none⟩ = some v ∧ w2.frozen? ⟨k0, 0, none⟩ = false ∧ KeepsOthers W (w2.setCell ⟨k0, 0, none⟩ v') ∧ (w2.setCell ⟨k0, 0, none⟩ v').heap[k1]? = W.heap[k1]? ∧
      Box (w2.setCell ⟨k0, 0, none⟩ v') k0 #[v'] 22 ∧ ((w2.setCell ⟨k0, 0, none⟩ v').ownsRow w.heap.size 5 1 v' ((pre ++ [x]).length * 504) (bcs (bodyTo xs (pre ++ [x]))) ∧ Box (w2.setCell ⟨k0, 0, none⟩ v') k1 cs 22) ∧ Below w.heap.size w (w2.setCell ⟨k0, 0, none⟩ v') := by
  have hne : ∀ g', v.ownBlock = some g' → w.heap.size ≤ g' ∧ g' ≠ k0 ∧ g' ≠ k1 := fun g' e => by
    obtain ⟨q1, cur, q2⟩ := owns_block hown g' e
    exact ⟨q1, q2.ne hv (by decide), q2.ne hk (by decide)⟩
  have hv2 : Box w2 k0 #[v] 22 := Box.grown (w := W.drew) hv hg2 (fun e => (hne _ e).2.1 rfl)
  have hk2 : Box w2 k1 cs 22 := Box.grown (w := W.drew) hk hg2 (fun e => (hne _ e).2.2 rfl)
  have hB2 : Below w.heap.size w w2 := (hB.drew).grown hg2 hB.size (fun k e => (hne _ e).1)
  have a1 : w2.heap[k1]? = W.heap[k1]? := hg2.block k1 hk.lt (fun e => (hne _ e.symm).2.2 rfl)
  have a2 : (w2.setCell ⟨k0, 0, none⟩ v').heap[k1]? = w2.heap[k1]? := heap_setCell_other w2 ⟨k0, 0, none⟩ k1 v' (by show k1 ≠ k0; omega)
  refine ⟨hv2.cell 0, hv2.frozen 0, ((KeepsOthers.drew W).trans (keeps_owns (w := W.drew) hown hg2)).trans (KeepsOthers.setCell w2 _ _), a2.trans a1, ?_, ⟨?_, a2.trans hk2⟩, hB2.setCell (p := ⟨k0, 0, none⟩) (by show w.heap.size ≤ k0; omega) v'⟩
  · have := hv2.store 0 v'; simpa using this
  · have e1 : (pre ++ [x]).length * 504 = pre.length * 504 + 504 := by simp; omega
    rw [e1, bodyTo_snoc, bcs_append]
    refine owns_grown hown2 (grown_store w2 k0 0 v') (fun g' e => ?_)
    obtain ⟨_, cur, q⟩ := owns_block hown2 g' e
    intro e2
    cases e2
    exact q.ne hv2 (by decide) rfl

end Go.Proofs.YtdkaacjeogifdaaGreat.Rc

/-
  getHeading.
-/
namespace Go.Proofs.YtdkaacjeogifdaaGreat.Rc
open Go.RowKit

/-- what a block says, were it a head -/
def saidE (xs : List UInt8) : Nat := beNat (xs.take 8) / 1099511627776
def saidS (xs : List UInt8) : Nat := beNat (xs.take 8) % 1099511627776
def bodyX (xs : List UInt8) : List UInt8 := bodyTo xs (List.finRange 8)
def saidEs (xs : List UInt8) : List (Nat × List UInt8) := if cntOf (bodyX xs) ≤ 32 then entsOf (bodyX xs) (cntOf (bodyX xs)) else []
/-- is it a head? -/
def isHead (xs : List UInt8) : Prop := xs.length = 4096 ∧ okHead (saidE xs) (saidS xs) ((saidEs xs).map fun e => (e.1 : Int)) ∧ xs = headB (saidE xs) (saidS xs) (saidEs xs)

theorem bodyX_length (xs : List UInt8) (hl : xs.length = 4096) : (bodyX xs).length = 4032 := by
  unfold bodyX bodyTo
  have : ∀ pre : List (Fin 8), (pre.flatMap fun x => (sec xs x.val).drop 8).length = pre.length * 504 := by
    intro pre
    induction pre with
    | nil => rfl
    | cons x pre ih =>
      have := sec_length xs x.val hl x.isLt
      rw [List.flatMap_cons, List.length_append, ih, List.length_drop, this, List.length_cons]
      omega
  rw [this]
  simp

theorem be8_lt (l : List UInt8) : beNat (l.take 8) < 18446744073709551616 := beNat_take_lt l 8 (by omega)

/-- entries that lie in blocks from B on -/
def EntsB (B : Nat) (w : World) (a : Option Addr) (es : List (Nat × List UInt8)) : Prop :=
  Ents w a es ∧ (0 < es.length → ∀ b o, a = some ⟨b, o, none⟩ → B ≤ b ∧ ∀ j, j < es.length → ∀ g q c, w.cell? ⟨b, o + j * 2 + 1, none⟩ = some (.slice (some ⟨g, q, none⟩) 64 c) → B ≤ g)
theorem EntsB.below {B : Nat} {w w' : World} {a : Option Addr} {es : List (Nat × List UInt8)} (h : EntsB B w a es) (hb : Below w.heap.size w w') : EntsB B w' a es := by
  refine ⟨h.1.below hb, fun hp b o ha => ?_⟩
  obtain ⟨h1, h2⟩ := h.2 hp b o ha
  refine ⟨h1, fun j hj g q c hc => h2 j hj g q c ?_⟩
  obtain ⟨b', o', ha', hc'⟩ := h.1 hp
  rw [ha] at ha'
  cases ha'
  have hlt : b < w.heap.size := block_lt_of_cell (hc' j hj).1
  rw [← hb.cell (p := ⟨b, o + j * 2 + 1, none⟩) hlt]
  exact hc
theorem EntsB.store {B x i : Nat} {w : World} {a : Option Addr} {es : List (Nat × List UInt8)} {u : Value} (h : EntsB B w a es) (hx : x < B) : EntsB B (w.setCell ⟨x, i, none⟩ u) a es := by
  have hup : Upd (fun k => k = x) w (w.setCell ⟨x, i, none⟩ u) := Upd.setCell (g := x) (Upd.refl (fun k => k = x) w) (.inl rfl) u
  have hcell : ∀ b k, B ≤ b → (w.setCell ⟨x, i, none⟩ u).cell? ⟨b, k, none⟩ = w.cell? ⟨b, k, none⟩ := fun b k hb => World.cell?_of_block (a := ⟨b, k, none⟩) (heap_setCell_other w ⟨x, i, none⟩ b u (by show b ≠ x; omega))
  refine ⟨fun hp => ?_, fun hp b o ha => ?_⟩
  · obtain ⟨b, o, ha, hc⟩ := h.1 hp
    obtain ⟨h1, h2⟩ := h.2 hp b o ha
    refine ⟨b, o, ha, fun j hj => ?_⟩
    obtain ⟨q1, g, q, c, q2, q3, q4, q5, q6⟩ := hc j hj
    have hg := h2 j hj g q c q2
    exact ⟨(hcell _ _ h1).trans q1, g, q, c, (hcell _ _ h1).trans q2, q3, q4, q5, q6.upd hup (by show ¬ g = x; omega)⟩
  · obtain ⟨h1, h2⟩ := h.2 hp b o ha
    exact ⟨h1, fun j hj g q c hc => h2 j hj g q c ((hcell _ _ h1).symm.trans hc)⟩

/-- what getHeading tells -/
def GetH (w : World) (xs : List UInt8) (r : Ending) (w' : World) : Prop :=
  (isHead xs ∧ ∃ a c, r = .returned (.tuple #[.agg #[.int .i64 (saidE xs : Int), .int .i64 (saidS xs : Int), .slice a (saidEs xs).length c], .bool true]) ∧ Ents w' a (saidEs xs) ∧ Below w.heap.size w w') ∨
  (¬ isHead xs ∧ r = .returned (.tuple #[.agg #[.int .i64 0, .int .i64 0, .slice none 0 0], .bool false]) ∧ Below w.heap.size w w')

end Go.Proofs.YtdkaacjeogifdaaGreat.Rc

/-
  unhide.
-/
namespace Go.Proofs.YtdkaacjeogifdaaGreat.Rc
open Go.RowKit Go.Shelf
attribute [local go_sem] Oper.semAt_some

/-- what was hidden laid back, sector by sector -/
def unhideStep (H : List UInt8) (st : List UInt8 × Nat) (x : Fin 8) : List UInt8 × Nat := (over st.1 (x.val * 512) ((H.drop (st.2 * 8)).take 8), st.2 + 1)
def unhideTo (xs H : List UInt8) (pre : List (Fin 8)) : List UInt8 × Nat := pre.foldl (unhideStep H) (xs, 0)
theorem unhideTo_snoc (xs H : List UInt8) (pre : List (Fin 8)) (x : Fin 8) : unhideTo xs H (pre ++ [x]) = unhideStep H (unhideTo xs H pre) x := by simp [unhideTo]
theorem unhideTo_two (xs H : List UInt8) (pre : List (Fin 8)) : (unhideTo xs H pre).2 = pre.length := by
  unfold unhideTo
  have : ∀ (pre : List (Fin 8)) (st : List UInt8 × Nat), (pre.foldl (unhideStep H) st).2 = st.2 + pre.length := by
    intro pre
    induction pre with
    | nil => intro st; rfl
    | cons x pre ih =>
      intro st
      rw [List.foldl_cons, ih]
      simp [unhideStep]
      omega
  rw [this]
  simp
theorem unhideTo_length (xs H : List UInt8) (hl : xs.length = 4096) (pre : List (Fin 8)) : (unhideTo xs H pre).1.length = 4096 := by
  unfold unhideTo
  have : ∀ (pre : List (Fin 8)) (st : List UInt8 × Nat), st.1.length = 4096 → (pre.foldl (unhideStep H) st).1.length = 4096 := by
    intro pre
    induction pre with
    | nil => intro st h; exact h
    | cons x pre ih =>
      intro st h
      have hx := x.isLt
      rw [List.foldl_cons]
      refine ih _ ?_
      unfold unhideStep
      rw [over_length _ _ _ (by rw [h]; simp; omega)]
      exact h
  exact this pre _ hl

/-- what stands in memory while the sectors come -/
def UnhideI (w : World) (h c gm om cm : Nat) (d : List UInt8) (k : Nat) (W : World) : Prop :=
  RowB W h c d ∧ (∃ o', Box W w.heap.size #[.slice (some ⟨gm, o', none⟩) (64 - k * 8) (cm - k * 8)] 22 ∧ (k < 8 → o' = om + k * 8))

end Go.Proofs.YtdkaacjeogifdaaGreat.Rc

/-
  Head, Get.
-/
namespace Go.Proofs.YtdkaacjeogifdaaGreat.Rc
open Go.RowKit

/-- bytes, list by list -/
def LstAt (w : World) (b o : Nat) (xs : List UInt8) : Prop := ∃ x c, w.cell? ⟨b, o, none⟩ = some (.slice x xs.length c) ∧ xs.length ≤ c ∧ c ≤ 9223372036854775807 ∧ (x = none → c = 0) ∧ Rd w x xs
def Lsts (w : World) (a : Option Addr) (ls : List (List UInt8)) : Prop :=
  0 < ls.length → ∃ b o, a = some ⟨b, o, none⟩ ∧ ∀ j (h : j < ls.length), LstAt w b (o + j) ls[j]
theorem LstAt.below {w w' : World} {b o : Nat} {xs : List UInt8} (h : LstAt w b o xs) (hb : Below w.heap.size w w') : LstAt w' b o xs := by
  obtain ⟨x, c, h2, h3, h4, h5, h6⟩ := h
  have hlt : b < w.heap.size := block_lt_of_cell h2
  exact ⟨x, c, (hb.cell (p := ⟨b, o, none⟩) hlt).trans h2, h3, h4, h5, h6.below hb (Nat.le_refl _)⟩
theorem Lsts.below {w w' : World} {a : Option Addr} {ls : List (List UInt8)} (h : Lsts w a ls) (hb : Below w.heap.size w w') : Lsts w' a ls := fun hp => by
  obtain ⟨b, o, ha, hc⟩ := h hp
  exact ⟨b, o, ha, fun j hj => (hc j hj).below hb⟩

/-- an image that was got: its data lie at (h, c) -/
structure GG where
  b : Int
  xs : List UInt8
  h : Nat
  c : Nat
def imgC (ps : List GG) : List Value := ps.flatMap fun p => [.int .i64 p.b, .slice (some ⟨p.h, 0, none⟩) 4096 p.c]
theorem imgC_length (ps : List GG) : (imgC ps).length = ps.length * 2 := by
  induction ps with
  | nil => rfl
  | cons p ps ih => simp only [imgC, List.flatMap_cons, List.length_append, List.length_cons, List.length_nil] at ih ⊢; omega
theorem imgC_at (ps : List GG) (i : Nat) (h : i < ps.length) : (imgC ps)[i * 2]? = some (.int .i64 ps[i].b) ∧ (imgC ps)[i * 2 + 1]? = some (.slice (some ⟨ps[i].h, 0, none⟩) 4096 ps[i].c) := by
  induction ps generalizing i with
  | nil => simp at h
  | cons p ps ih =>
    cases i with
    | zero => exact ⟨rfl, rfl⟩
    | succ i =>
      obtain ⟨u, v⟩ := ih i (by simpa using h)
      have e1 : (i + 1) * 2 = i * 2 + 1 + 1 := by omega
      simp only [imgC, List.flatMap_cons, e1, List.cons_append, List.nil_append, List.getElem?_cons_succ, List.getElem_cons_succ]
      exact ⟨u, v⟩
structure GetJ (B : Nat) (W : World) (ps : List GG) : Prop where
  rows : ∀ p ∈ ps, RowB W p.h p.c p.xs ∧ B ≤ p.h ∧ p.xs.length = 4096
  apart : (ps.map GG.h).Nodup
theorem GetJ.mono {B : Nat} {W W' : World} {ps : List GG} (h : GetJ B W ps) (hk : ∀ g cur, Box W g cur 5 → W'.heap[g]? = W.heap[g]?) : GetJ B W' ps :=
  ⟨fun p hp => by
    obtain ⟨a1, a2⟩ := h.rows p hp
    refine ⟨a1.same ?_, a2⟩
    obtain ⟨cur, q, _⟩ := a1; exact hk _ _ q, h.apart⟩
theorem GetJ.below {B : Nat} {W W' : World} {ps : List GG} (h : GetJ B W ps) (hb : Below W.heap.size W W') : GetJ B W' ps := h.mono fun g _ q => hb.block g q.lt
theorem GetJ.grown {B base e size n : Nat} {W W' : World} {ps : List GG} {v : Value} {xs : List Value} (h : GetJ B W ps) (ho : W.ownsRow base e size v n xs) (he : (5 : TypeId) ≠ e) (hg : W.grownBy W' v.ownBlock) : GetJ B W' ps := h.mono fun g cur q => hg.block g q.lt (fun eq => by
  obtain ⟨_, c2, q2⟩ := owns_block ho g eq.symm
  exact q.ne q2 he rfl)
theorem GetJ.store {B b j : Nat} {W : World} {ps : List GG} {cs : Array Value} {t : TypeId} (h : GetJ B W ps) (hb : Box W b cs t) (ht : (5 : TypeId) ≠ t) (u : Value) : GetJ B (W.setCell ⟨b, j, none⟩ u) ps := h.mono fun g _ q => heap_setCell_other W ⟨b, j, none⟩ g u (q.ne hb ht)
theorem GetJ.snoc {B : Nat} {W W' : World} {ps : List GG} (h : GetJ B W ps) (hb : Below W.heap.size W W') (p : GG) (h1 : RowB W' p.h p.c p.xs) (h3 : W.heap.size ≤ p.h) (h4 : p.xs.length = 4096) (hB : B ≤ W.heap.size) : GetJ B W' (ps ++ [p]) :=
  ⟨fun x hx => by
    rcases List.mem_append.1 hx with hx | hx
    · exact (h.below hb).rows x hx
    · simp at hx
      subst hx
      exact ⟨h1, by omega, h4⟩, by
    rw [List.map_append, List.nodup_append]
    refine ⟨h.apart, by simp, fun x hx y hy => ?_⟩
    obtain ⟨z, hz, rfl⟩ := List.mem_map.1 hx
    simp at hy
    subst hy
    have := (h.rows z hz).1.lt
    omega⟩

/-- image j of blocks whose head says es -/
def imgOf (ls : List (List UInt8)) (es : List (Nat × List UInt8)) (j : Nat) : Int × List UInt8 := (((es[j]?.getD (0, [])).1 : Int), (unhideTo (ls[j + 1]?.getD []) (es[j]?.getD (0, [])).2 (List.finRange 8)).1)
def imgsTo (ls : List (List UInt8)) (es : List (Nat × List UInt8)) (k : Nat) : List (Int × List UInt8) := (List.range k).map (imgOf ls es)
theorem imgsTo_succ (ls : List (List UInt8)) (es : List (Nat × List UInt8)) (k : Nat) : imgsTo ls es (k + 1) = imgsTo ls es k ++ [imgOf ls es k] := by simp [imgsTo, List.range_succ]
/-- the first k images' blocks bear the stamp -/
def stampedTo (ls : List (List UInt8)) (e s : Int) (k : Nat) : Prop := ∀ j, j < k → stampedB (ls[j + 1]?.getD []) e s = true
/-- are these the blocks of a group? -/
def isGrp (ls : List (List UInt8)) : Prop := 0 < ls.length ∧ isHead (ls[0]?.getD []) ∧ ls.length = (saidEs (ls[0]?.getD [])).length + 1 ∧ stampedTo ls (saidE (ls[0]?.getD [])) (saidS (ls[0]?.getD [])) (saidEs (ls[0]?.getD [])).length

theorem info38 : (Tryz.prog.info? 57).map (fun i => (i.zero, i.size, i.bytes)) = some (some (.agg #[.int .i64 0, .slice none 0 0]), 2, 32) := by kernel_rfl

/-- what Get tells -/
def GetR (w : World) (ls : List (List UInt8)) (r : Ending) (w' : World) : Prop :=
  (isGrp ls ∧ ∃ a c ps, r = .returned (.tuple #[.agg #[.int .i64 (saidE (ls[0]?.getD []) : Int), .int .i64 (saidS (ls[0]?.getD []) : Int), .slice a (saidEs (ls[0]?.getD [])).length c], .int .i64 0]) ∧ w'.ownsRow w.heap.size 57 2 (.slice a (saidEs (ls[0]?.getD [])).length c) (saidEs (ls[0]?.getD [])).length (imgC ps) ∧
    GetJ w.heap.size w' ps ∧ ps.map (fun p => (p.b, p.xs)) = imgsTo ls (saidEs (ls[0]?.getD [])) (saidEs (ls[0]?.getD [])).length ∧ Below w.heap.size w w') ∨
  (¬ isGrp ls ∧ r = .returned (.tuple #[.agg #[.int .i64 0, .int .i64 0, .slice none 0 0], .int .i64 80]) ∧ Below w.heap.size w w')

theorem zero_below {w W : World} (B : Below w.heap.size w W) : Below w.heap.size w (((W.setCell ⟨w.heap.size, 0, none⟩ (.int .i64 0)).setCell ⟨w.heap.size, 1, none⟩ (.int .i64 0)).setCell ⟨w.heap.size, 2, none⟩ (.slice none 0 0)) :=
  ((B.setCell (p := ⟨w.heap.size, 0, none⟩) (by simp) _).setCell (p := ⟨w.heap.size, 1, none⟩) (by simp) _).setCell (p := ⟨w.heap.size, 2, none⟩) (by simp) _

theorem zero_box {w W : World} (b : Box W w.heap.size #[.int .i64 0, .int .i64 0, .slice none 0 0] 60) : Box (((W.setCell ⟨w.heap.size, 0, none⟩ (.int .i64 0)).setCell ⟨w.heap.size, 1, none⟩ (.int .i64 0)).setCell ⟨w.heap.size, 2, none⟩ (.slice none 0 0)) w.heap.size #[.int .i64 0, .int .i64 0, .slice none 0 0] 60 := by
  have := ((b.store 0 (.int .i64 0)).store 1 (.int .i64 0)).store 2 (.slice none 0 0)
  simpa using this

end Go.Proofs.YtdkaacjeogifdaaGreat.Rc

/-
  Put of what is no right group; Head.
-/
namespace Go.Proofs.YtdkaacjeogifdaaGreat.Rc
open Go.RowKit

/-- what Head tells -/
def HeadR (w : World) (xs : List UInt8) (r : Ending) (w' : World) : Prop :=
  (isHead xs ∧ r = .returned (.tuple #[.int .i64 (saidE xs : Int), .int .i64 (saidS xs : Int), .int .i64 ((saidEs xs).length : Int), .bool true]) ∧ Below w.heap.size w w') ∨
  (¬ isHead xs ∧ r = .returned (.tuple #[.int .i64 0, .int .i64 0, .int .i64 0, .bool false]) ∧ Below w.heap.size w w')

end Go.Proofs.YtdkaacjeogifdaaGreat.Rc

/-
  Blocks, sector by sector: what the walks through sectors come to. No walk here.
-/
namespace Go.Proofs.YtdkaacjeogifdaaGreat.Rc

/-- eight parts, one behind the other -/
def cat (f : Fin 8 → List UInt8) (k : Nat) : List UInt8 := (firsts k).flatMap f
theorem cat_succ (f : Fin 8 → List UInt8) (k : Nat) (h : k < 8) : cat f (k + 1) = cat f k ++ f ⟨k, h⟩ := by unfold cat; rw [firsts_succ k h]; simp
theorem cat_length (f : Fin 8 → List UInt8) (n : Nat) (hf : ∀ x, (f x).length = n) : ∀ k, k ≤ 8 → (cat f k).length = k * n
  | 0, _ => by simp [cat, firsts]
  | k + 1, h => by rw [cat_succ f k h, List.length_append, cat_length f n hf k (by omega), hf, Nat.add_mul, Nat.one_mul]
theorem over_app (A B M : List UInt8) (off : Nat) (h : A.length = off) : over (A ++ B) off M = A ++ (M ++ B.drop M.length) := by
  subst h
  unfold over
  rw [List.take_left, List.drop_append]
  congr 2
  rw [List.drop_eq_nil_of_le (by omega), List.nil_append]
  congr 1
  omega
theorem drop_sec (xs : List UInt8) (k : Nat) : xs.drop (k * 512 + 8) = (sec xs k).drop 8 ++ xs.drop ((k + 1) * 512) := by
  unfold sec
  rw [List.drop_take, List.drop_drop]
  have e : xs.drop ((k + 1) * 512) = (xs.drop (k * 512 + 8)).drop 504 := by rw [List.drop_drop]; exact congrArg (fun i => xs.drop i) (by omega)
  rw [e]
  exact (List.take_append_drop 504 _).symm
theorem sec_app (A B : List UInt8) (k : Nat) (h : A.length = k * 512) : sec (A ++ B) k = B.take 512 := by
  unfold sec
  rw [List.drop_append, List.drop_eq_nil_of_le (by omega), List.nil_append, h, Nat.sub_self, List.drop_zero]

theorem hideTo_firsts (xs M : List UInt8) (hl : xs.length = 4096) (hm : M.length = 8) : ∀ k, k ≤ 8 → hideTo xs M (firsts k) = (cat (fun x => M ++ (sec xs x.val).drop 8) k ++ xs.drop (k * 512), cat (fun x => (sec xs x.val).take 8) k)
  | 0, _ => by simp [hideTo, firsts, cat]
  | k + 1, h => by
    have hA : (cat (fun x => M ++ (sec xs x.val).drop 8) k).length = k * 512 := cat_length _ 512 (fun x => by have := sec_length xs x.val hl x.isLt; simp [this, hm]) k (by omega)
    rw [firsts_succ k h, hideTo_snoc, hideTo_firsts xs M hl hm k (by omega), cat_succ _ k h, cat_succ _ k h]
    unfold hideStep
    dsimp only
    rw [over_app _ _ _ _ hA, sec_app _ _ _ hA, hm, List.drop_drop, drop_sec]
    simp only [List.append_assoc]
    rfl
theorem unhideTo_firsts (xs H : List UInt8) (hl : xs.length = 4096) (hh : H.length = 64) : ∀ k, k ≤ 8 → unhideTo xs H (firsts k) = (cat (fun x => (H.drop (x.val * 8)).take 8 ++ (sec xs x.val).drop 8) k ++ xs.drop (k * 512), k)
  | 0, _ => by simp [unhideTo, firsts, cat]
  | k + 1, h => by
    have hA : (cat (fun x => (H.drop (x.val * 8)).take 8 ++ (sec xs x.val).drop 8) k).length = k * 512 := cat_length _ 512 (fun x => by have := sec_length xs x.val hl x.isLt; have := x.isLt; simp; omega) k (by omega)
    have h8 : ((H.drop (k * 8)).take 8).length = 8 := by simp; omega
    rw [firsts_succ k h, unhideTo_snoc, unhideTo_firsts xs H hl hh k (by omega), cat_succ _ k h]
    unfold unhideStep
    dsimp only
    rw [over_app _ _ _ _ hA, h8, List.drop_drop, drop_sec]
    simp only [List.append_assoc]
theorem putTo_firsts (Z M BB : List UInt8) (hl : Z.length = 4096) (hm : M.length = 8) (hb : BB.length = 4032) : ∀ k, k ≤ 8 → putTo Z M BB (firsts k) = (cat (fun x => M ++ (BB.drop (x.val * 504)).take 504) k ++ Z.drop (k * 512), k)
  | 0, _ => by simp [putTo, firsts, cat]
  | k + 1, h => by
    have hA : (cat (fun x => M ++ (BB.drop (x.val * 504)).take 504) k).length = k * 512 := cat_length _ 512 (fun x => by have := x.isLt; simp [hm]; omega) k (by omega)
    have h5 : ((BB.drop (k * 504)).take 504).length = 504 := by simp; omega
    rw [firsts_succ k h, putTo_snoc, putTo_firsts Z M BB hl hm hb k (by omega), cat_succ _ k h]
    unfold putStep
    dsimp only
    rw [over_app _ _ _ _ hA, ← List.append_assoc, over_app _ _ _ (k * 512 + 8) (by rw [List.length_append, hA, hm]), h5, hm, List.drop_drop, List.drop_drop]
    have e0 : k * 512 + 8 + 504 = (k + 1) * 512 := by omega
    rw [e0]
    simp only [List.append_assoc]

/-- what the calls come to -/
theorem stB_cat (M xs : List UInt8) (hl : xs.length = 4096) (hm : M.length = 8) : stB M xs = cat (fun x => M ++ (sec xs x.val).drop 8) 8 := by
  unfold stB
  rw [← firsts_all, hideTo_firsts xs M hl hm 8 (by omega)]
  simp [List.drop_eq_nil_of_le, hl]
theorem hdB_cat (M xs : List UInt8) (hl : xs.length = 4096) (hm : M.length = 8) : hdB M xs = cat (fun x => (sec xs x.val).take 8) 8 := by
  unfold hdB
  rw [← firsts_all, hideTo_firsts xs M hl hm 8 (by omega)]
theorem unhide_cat (xs H : List UInt8) (hl : xs.length = 4096) (hh : H.length = 64) : (unhideTo xs H (List.finRange 8)).1 = cat (fun x => (H.drop (x.val * 8)).take 8 ++ (sec xs x.val).drop 8) 8 := by
  rw [← firsts_all, unhideTo_firsts xs H hl hh 8 (by omega)]
  simp [List.drop_eq_nil_of_le, hl]
theorem headB_cat (e s : Nat) (es : List (Nat × List UInt8)) (hb : (bodyB es).length = 4032) : headB e s es = cat (fun x => mark e s ++ ((bodyB es).drop (x.val * 504)).take 504) 8 := by
  unfold headB
  rw [← firsts_all, putTo_firsts _ _ _ (nought_length _) (mark_length _ _) hb 8 (by omega)]
  have : (nought 4096).drop (8 * 512) = [] := List.drop_eq_nil_of_le (by rw [nought_length]; omega)
  rw [this, List.append_nil]
theorem bodyX_cat (xs : List UInt8) : bodyX xs = cat (fun x => (sec xs x.val).drop 8) 8 := by unfold bodyX bodyTo cat; rw [firsts_all]

/-- part x of eight parts -/
theorem part_cat (f : Fin 8 → List UInt8) (n : Nat) (hf : ∀ x, (f x).length = n) (x : Fin 8) : ∀ k, k ≤ 8 → x.val < k → ((cat f k).drop (x.val * n)).take n = f x
  | 0, _, h => absurd h (by omega)
  | k + 1, hk, h => by
    have hl := cat_length f n hf k (by omega)
    rw [cat_succ f k hk]
    by_cases hx : x.val < k
    · have h1 : x.val * n + n ≤ k * n := by
        have := Nat.mul_le_mul_right n (show x.val + 1 ≤ k from hx)
        rw [Nat.add_mul, Nat.one_mul] at this
        exact this
      rw [List.drop_append_of_le_length (by omega), List.take_append_of_le_length (by rw [List.length_drop]; omega)]
      exact part_cat f n hf x k (by omega) hx
    · obtain ⟨xv, hxv⟩ := x
      obtain rfl : xv = k := by simp at h hx; omega
      rw [List.drop_append, List.drop_eq_nil_of_le (by rw [hl]; exact Nat.le_refl _), List.nil_append, hl, Nat.sub_self, List.drop_zero, List.take_of_length_le (by rw [hf]; exact Nat.le_refl _)]
theorem sec_cat (f : Fin 8 → List UInt8) (hf : ∀ x, (f x).length = 512) (x : Fin 8) : sec (cat f 8) x.val = f x := part_cat f 512 hf x 8 (by omega) x.isLt
/-- a block is its sectors -/
theorem cat_sec (xs : List UInt8) (hl : xs.length = 4096) : cat (fun x => sec xs x.val) 8 = xs := by
  have : ∀ k, k ≤ 8 → cat (fun x => sec xs x.val) k = xs.take (k * 512) := by
    intro k
    induction k with
    | zero => intro _; simp [cat, firsts]
    | succ k ih =>
      intro h
      rw [cat_succ _ k h, ih (by omega)]
      unfold sec
      have e : (k + 1) * 512 = k * 512 + 512 := by omega
      rw [e, List.take_add]
  rw [this 8 (by omega)]
  exact List.take_of_length_le (by omega)

/-- what is hidden is laid back -/
theorem unhide_hide (M xs : List UInt8) (hl : xs.length = 4096) (hm : M.length = 8) : (unhideTo (stB M xs) (hdB M xs) (List.finRange 8)).1 = xs := by
  have hf : ∀ x : Fin 8, (M ++ (sec xs x.val).drop 8).length = 512 := fun x => by have := sec_length xs x.val hl x.isLt; simp [this, hm]
  have hg : ∀ x : Fin 8, ((sec xs x.val).take 8).length = 8 := fun x => by have := sec_length xs x.val hl x.isLt; simp [this]
  have h1 : (stB M xs).length = 4096 := by rw [stB_cat M xs hl hm, cat_length _ 512 hf 8 (by omega)]
  have h2 : (hdB M xs).length = 64 := by rw [hdB_cat M xs hl hm, cat_length _ 8 hg 8 (by omega)]
  rw [unhide_cat _ _ h1 h2]
  have : (fun x : Fin 8 => ((hdB M xs).drop (x.val * 8)).take 8 ++ (sec (stB M xs) x.val).drop 8) = fun x => sec xs x.val := by
    funext x
    rw [hdB_cat M xs hl hm, part_cat _ 8 hg x 8 (by omega) x.isLt, stB_cat M xs hl hm, sec_cat _ hf x]
    have : (M ++ (sec xs x.val).drop 8).drop 8 = (sec xs x.val).drop 8 := List.drop_left' hm
    rw [this]
    exact List.take_append_drop 8 _
  rw [this]
  exact cat_sec xs hl
end Go.Proofs.YtdkaacjeogifdaaGreat.Rc

/-
  What is put is got: no walk here.
-/
namespace Go.Proofs.YtdkaacjeogifdaaGreat.Rc

/-- parts of 504, one behind the other -/
theorem cat_parts (bb : List UInt8) (hl : bb.length = 4032) : cat (fun x => (bb.drop (x.val * 504)).take 504) 8 = bb := by
  have : ∀ k, k ≤ 8 → cat (fun x => (bb.drop (x.val * 504)).take 504) k = bb.take (k * 504) := by
    intro k
    induction k with
    | zero => intro _; simp [cat, firsts]
    | succ k ih =>
      intro h
      rw [cat_succ _ k h, ih (by omega)]
      have e : (k + 1) * 504 = k * 504 + 504 := by omega
      rw [e, List.take_add]
  rw [this 8 (by omega)]
  exact List.take_of_length_le (by omega)

section
variable {e s : Nat} {es : List (Nat × List UInt8)}
theorem part_len (hb : (bodyB es).length = 4032) (x : Fin 8) : (mark e s ++ ((bodyB es).drop (x.val * 504)).take 504).length = 512 := by
  have := x.isLt
  simp [mark_length, hb]
  omega
theorem sec_head (hb : (bodyB es).length = 4032) (x : Fin 8) : sec (headB e s es) x.val = mark e s ++ ((bodyB es).drop (x.val * 504)).take 504 := by
  rw [headB_cat e s es hb]
  exact sec_cat _ (part_len hb) x
theorem headB_length (hb : (bodyB es).length = 4032) : (headB e s es).length = 4096 := by
  rw [headB_cat e s es hb, cat_length _ 512 (part_len hb) 8 (by omega)]
theorem body_head (hb : (bodyB es).length = 4032) : bodyX (headB e s es) = bodyB es := by
  rw [bodyX_cat]
  have : (fun x : Fin 8 => (sec (headB e s es) x.val).drop 8) = fun x => ((bodyB es).drop (x.val * 504)).take 504 := by
    funext x
    rw [sec_head hb x]
    exact List.drop_left' (mark_length _ _)
  rw [this]
  exact cat_parts _ hb
theorem take8_sec (xs : List UInt8) : xs.take 8 = (sec xs 0).take 8 := by
  unfold sec
  rw [Nat.zero_mul, List.drop_zero, List.take_take]
  rfl
theorem take8_head (hb : (bodyB es).length = 4032) : (headB e s es).take 8 = mark e s := by
  rw [take8_sec, show sec (headB e s es) 0 = _ from sec_head hb (0 : Fin 8)]
  exact List.take_left' (mark_length _ _)
theorem be_mark (he : e ≤ 8388608) (hs : s ≤ 549755813888) : beNat (mark e s) = stampN e s := by
  unfold mark
  rw [beNat_toBE]
  refine Nat.mod_eq_of_lt ?_
  unfold stampN
  omega
theorem said_head (hb : (bodyB es).length = 4032) (he : e ≤ 8388608) (hs : s ≤ 549755813888) : saidE (headB e s es) = e ∧ saidS (headB e s es) = s := by
  unfold saidE saidS
  rw [take8_head hb, be_mark he hs]
  unfold stampN
  omega
theorem cnt_body (hn : es.length ≤ 32) : cntOf (bodyB es) = es.length := by
  unfold cntOf bodyB
  rw [List.append_assoc, List.take_left' (toBE_length _ _), beNat_toBE]
  omega
theorem entsB_split (h : ∀ x ∈ es, x.2.length = 64) (i : Nat) (hi : i < es.length) : ∃ r, entsB es = entsB (es.take i) ++ (toBE 2 es[i].1 ++ (es[i].2 ++ r)) ∧ (entsB (es.take i)).length = i * 66 := by
  refine ⟨entsB (es.drop (i + 1)), ?_, ?_⟩
  · have e1 : es = es.take i ++ es[i] :: es.drop (i + 1) := by simp
    have : entsB es = entsB (es.take i ++ es[i] :: es.drop (i + 1)) := by rw [← e1]
    rw [this]
    unfold entsB
    rw [List.flatMap_append, List.flatMap_cons]
    simp only [List.append_assoc]
  · rw [entsB_length _ (fun x hx => h x (List.mem_of_mem_take hx))]
    rw [List.length_take, Nat.min_eq_left (by omega)]
theorem ent_body (h : ∀ x ∈ es, x.2.length = 64) (hb : ∀ x ∈ es, x.1 ≤ 511) (i : Nat) (hi : i < es.length) : entOf (bodyB es) i = es[i] := by
  obtain ⟨r, e1, e2⟩ := entsB_split h i hi
  have hm := List.getElem_mem hi
  have d6 : (bodyB es).drop (6 + i * 66) = toBE 2 es[i].1 ++ (es[i].2 ++ (r ++ nought (4026 - es.length * 66))) := by
    unfold bodyB restB
    rw [← List.drop_drop, List.drop_left' (by rw [List.length_append, toBE_length, toBE_length]), e1]
    simp only [List.append_assoc]
    exact List.drop_left' e2
  have d8 : (bodyB es).drop (8 + i * 66) = es[i].2 ++ (r ++ nought (4026 - es.length * 66)) := by
    rw [show 8 + i * 66 = (6 + i * 66) + 2 by omega, ← List.drop_drop, d6]
    exact List.drop_left' (toBE_length _ _)
  unfold entOf
  rw [d6, d8, List.take_left' (toBE_length _ _), List.take_left' (h _ hm), beNat_toBE, Nat.mod_eq_of_lt (by have := hb _ hm; omega)]
theorem ents_body (h : ∀ x ∈ es, x.2.length = 64) (hb : ∀ x ∈ es, x.1 ≤ 511) : entsOf (bodyB es) es.length = es := by
  refine List.ext_getElem (entsOf_length _ _) (fun i h1 h2 => ?_)
  have : (entsOf (bodyB es) es.length)[i] = entOf (bodyB es) i := by simp [entsOf]
  rw [this]
  exact ent_body h hb i h2
/-- what a head says -/
theorem said_es (h : ∀ x ∈ es, x.2.length = 64) (hb : ∀ x ∈ es, x.1 ≤ 511) (hn : es.length ≤ 32) : saidEs (headB e s es) = es := by
  unfold saidEs
  rw [body_head (bodyB_length es h hn), cnt_body hn, if_pos hn]
  exact ents_body h hb
theorem head_is (h : ∀ x ∈ es, x.2.length = 64) (hb : ∀ x ∈ es, x.1 ≤ 511) (hn : es.length ≤ 32) (hok : okHead e s (es.map fun x => (x.1 : Int))) : isHead (headB e s es) := by
  have hl := bodyB_length es h hn
  have hst := (okStamp_iff _ _).1 hok.1
  obtain ⟨q1, q2⟩ := said_head (e := e) (s := s) hl (by omega) (by omega)
  unfold isHead
  rw [q1, q2, said_es h hb hn]
  exact ⟨headB_length hl, hok, rfl⟩
end

/-- a group's entries, its blocks -/
def entL (M : List UInt8) (is : List (Int × List UInt8)) : List (Nat × List UInt8) := is.map fun i => (i.1.toNat, hdB M i.2)
def putL (e s : Nat) (is : List (Int × List UInt8)) : List (List UInt8) := headB e s (entL (mark e s) is) :: is.map fun i => stB (mark e s) i.2

section
variable {e s : Nat} {is : List (Int × List UInt8)}
theorem hdB_length (M xs : List UInt8) (hl : xs.length = 4096) (hm : M.length = 8) : (hdB M xs).length = 64 := by
  rw [hdB_cat M xs hl hm, cat_length _ 8 (fun x => by have := sec_length xs x.val hl x.isLt; simp [this]) 8 (by omega)]
theorem stB_length (M xs : List UInt8) (hl : xs.length = 4096) (hm : M.length = 8) : (stB M xs).length = 4096 := by
  rw [stB_cat M xs hl hm, cat_length _ 512 (fun x => by have := sec_length xs x.val hl x.isLt; simp [this, hm]) 8 (by omega)]
theorem okTo_each {bs : List Int} (h : okTo bs bs.length) : ∀ b ∈ bs, 0 ≤ b ∧ b ≤ 511 := fun b hb => by
  obtain ⟨j, hj, rfl⟩ := List.getElem_of_mem hb
  exact (h j hj hj).1
theorem entL_len (hok : okGroup e s is) : ∀ x ∈ entL (mark e s) is, x.2.length = 64 := fun x hx => by
  obtain ⟨i, hi, rfl⟩ := List.mem_map.1 hx
  exact hdB_length _ _ (hok.2 i hi) (mark_length _ _)
theorem entL_blk (hok : okGroup e s is) : ∀ x ∈ entL (mark e s) is, x.1 ≤ 511 := fun x hx => by
  obtain ⟨i, hi, rfl⟩ := List.mem_map.1 hx
  have := okTo_each hok.1.2.2 i.1 (List.mem_map.2 ⟨i, hi, rfl⟩)
  show i.1.toNat ≤ 511
  omega
theorem entL_map (hok : okGroup e s is) (M : List UInt8) : ((entL M is).map fun x => (x.1 : Int)) = is.map (·.1) := by
  unfold entL
  rw [List.map_map]
  refine List.map_congr_left (fun i hi => ?_)
  have := okTo_each hok.1.2.2 i.1 (List.mem_map.2 ⟨i, hi, rfl⟩)
  show ((i.1.toNat : Nat) : Int) = i.1
  omega
theorem entL_length (M : List UInt8) : (entL M is).length = is.length := by simp [entL]
theorem is_length (hok : okGroup e s is) : 1 ≤ is.length ∧ is.length ≤ 32 := by have := hok.1.2.1; simpa using this
theorem put_head (hok : okGroup e s is) : isHead (headB e s (entL (mark e s) is)) :=
  head_is (entL_len hok) (entL_blk hok) (by rw [entL_length]; exact (is_length hok).2) (by rw [entL_map hok]; exact hok.1)
theorem put_said (hok : okGroup e s is) : saidE (headB e s (entL (mark e s) is)) = e ∧ saidS (headB e s (entL (mark e s) is)) = s ∧ saidEs (headB e s (entL (mark e s) is)) = entL (mark e s) is := by
  have hn : (entL (mark e s) is).length ≤ 32 := by rw [entL_length]; exact (is_length hok).2
  have hst := (okStamp_iff _ _).1 hok.1.1
  obtain ⟨q1, q2⟩ := said_head (e := e) (s := s) (bodyB_length _ (entL_len hok) hn) (by omega) (by omega)
  exact ⟨q1, q2, said_es (entL_len hok) (entL_blk hok) hn⟩
theorem sec_st (M xs : List UInt8) (hl : xs.length = 4096) (hm : M.length = 8) (x : Fin 8) : sec (stB M xs) x.val = M ++ (sec xs x.val).drop 8 := by
  rw [stB_cat M xs hl hm]
  exact sec_cat _ (fun x => by have := sec_length xs x.val hl x.isLt; simp [this, hm]) x
theorem st_stamped (hok : okGroup e s is) (i : Int × List UInt8) (hi : i ∈ is) : stampedB (stB (mark e s) i.2) (e : Int) (s : Int) = true := by
  unfold stampedB
  have hl := hok.2 i hi
  have h1 := stB_length (mark e s) i.2 hl (mark_length _ _)
  have h2 : okStamp (e : Int) (s : Int) = true := hok.1.1
  rw [h2]
  simp only [h1, decide_true, Bool.true_and]
  unfold allMarked
  rw [List.all_eq_true]
  intro x _
  rw [sec_st _ _ hl (mark_length _ _) x, List.take_left' (mark_length _ _)]
  simp
/-- what is put is a group -/
theorem put_grp (hok : okGroup e s is) : isGrp (putL e s is) := by
  obtain ⟨q1, q2, q3⟩ := put_said hok
  unfold isGrp
  have e0 : (putL e s is)[0]?.getD [] = headB e s (entL (mark e s) is) := rfl
  rw [e0, q1, q2, q3, entL_length]
  refine ⟨by simp [putL], put_head hok, by simp [putL], fun j hj => ?_⟩
  have : (putL e s is)[j + 1]?.getD [] = stB (mark e s) (is[j]).2 := by simp [putL, hj]
  rw [this]
  exact st_stamped hok _ (List.getElem_mem hj)
/-- and that group is got -/
theorem put_imgs (hok : okGroup e s is) : imgsTo (putL e s is) (entL (mark e s) is) is.length = is := by
  refine List.ext_getElem (by simp [imgsTo]) (fun j h1 h2 => ?_)
  have e9 : (imgsTo (putL e s is) (entL (mark e s) is) is.length)[j] = imgOf (putL e s is) (entL (mark e s) is) j := by simp [imgsTo]
  rw [e9]
  unfold imgOf
  have hm := List.getElem_mem h2
  have e1 : (putL e s is)[j + 1]?.getD [] = stB (mark e s) (is[j]).2 := by simp [putL, h2]
  have e2 : (entL (mark e s) is)[j]?.getD (0, []) = ((is[j]).1.toNat, hdB (mark e s) (is[j]).2) := by simp [entL, h2]
  rw [e1, e2]
  dsimp only
  rw [unhide_hide _ _ (hok.2 _ hm) (mark_length _ _)]
  have := okTo_each hok.1.2.2 (is[j]).1 (List.mem_map.2 ⟨_, hm, rfl⟩)
  refine Prod.ext ?_ rfl
  show (((is[j]).1.toNat : Nat) : Int) = (is[j]).1
  omega
end
end Go.Proofs.YtdkaacjeogifdaaGreat.Rc

/-
  A group is taken only if all of it was written: no walk here.
-/
namespace Go.Proofs.YtdkaacjeogifdaaGreat.Rc

theorem mark_inj {e s e' s' : Nat} (he : e ≤ 8388608) (hs : s ≤ 549755813888) (he' : e' ≤ 8388608) (hs' : s' ≤ 549755813888) (h : mark e s = mark e' s') : e = e' ∧ s = s' := by
  have h1 := congrArg beNat h
  rw [be_mark he hs, be_mark he' hs'] at h1
  unfold stampN at h1
  omega
/-- no noughts bear a stamp -/
theorem mark_ne {e s : Nat} (he : 1 ≤ e) (he2 : e ≤ 8388608) (hs : s ≤ 549755813888) : mark e s ≠ List.replicate 8 0 := fun h => by
  have h1 := congrArg beNat h
  rw [be_mark he2 hs] at h1
  have h2 : beNat (List.replicate 8 0) = 0 := by decide
  rw [h2] at h1
  unfold stampN at h1
  omega

/-- every sector of a group bears the stamp that it says -/
theorem grp_marks {ls : List (List UInt8)} (h : isGrp ls) (b : Nat) (hb : b < ls.length) (x : Fin 8) : (sec ls[b] x.val).take 8 = mark (saidE (ls[0]?.getD [])) (saidS (ls[0]?.getD [])) := by
  obtain ⟨h0, hh, hn, hs⟩ := h
  cases b with
  | zero =>
    have e0 : ls[0] = ls[0]?.getD [] := by simp [h0]
    rw [e0]
    obtain ⟨h1, h2, h3⟩ := hh
    have hlen : ∀ y ∈ saidEs (ls[0]?.getD []), y.2.length = 64 := by
      intro y hy
      unfold saidEs at hy
      split at hy
      · unfold entsOf at hy
        obtain ⟨i, hi, rfl⟩ := List.mem_map.1 hy
        have hi' : i < cntOf (bodyX (ls[0]?.getD [])) := by simpa using hi
        have hbl := bodyX_length _ h1
        unfold entOf
        show ((List.drop (8 + i * 66) _).take 64).length = 64
        rw [List.length_take, List.length_drop, hbl]
        omega
      · cases hy
    have hbd : (bodyB (saidEs (ls[0]?.getD []))).length = 4032 := bodyB_length _ hlen (by have := h2.2.1; simpa using this.2)
    have h4 := sec_head (e := saidE (ls[0]?.getD [])) (s := saidS (ls[0]?.getD [])) hbd x
    rw [← h3] at h4
    rw [h4]
    exact List.take_left' (mark_length _ _)
  | succ j =>
    have hj : j < (saidEs (ls[0]?.getD [])).length := by omega
    have h1 := hs j hj
    have e1 : ls[j + 1]?.getD [] = ls[j + 1] := by simp [hb]
    rw [e1] at h1
    unfold stampedB allMarked at h1
    simp only [Bool.and_eq_true, List.all_eq_true] at h1
    have h2 := h1.2.2 x (List.mem_finRange x)
    simpa using h2
theorem grp_ok {ls : List (List UInt8)} (h : isGrp ls) : okStamp (saidE (ls[0]?.getD [])) (saidS (ls[0]?.getD [])) = true := h.2.1.2.1.1
theorem grp_len {ls : List (List UInt8)} (h : isGrp ls) (b : Nat) (hb : b < ls.length) : ls[b].length = 4096 := by
  obtain ⟨h0, hh, hn, hs⟩ := h
  cases b with
  | zero =>
    have e0 : ls[0] = ls[0]?.getD [] := by simp [h0]
    rw [e0]
    exact hh.1
  | succ j =>
    have h1 := hs j (by omega)
    have e1 : ls[j + 1]?.getD [] = ls[j + 1] := by simp [hb]
    rw [e1] at h1
    unfold stampedB at h1
    simp only [Bool.and_eq_true, decide_eq_true_eq] at h1
    exact h1.1

section
variable {e s e' s' : Nat} {is is' : List (Int × List UInt8)}
theorem put_marks (hok : okGroup e s is) (b : Nat) (hb : b < (putL e s is).length) (x : Fin 8) : (sec (putL e s is)[b] x.val).take 8 = mark e s := by
  have h := grp_marks (put_grp hok) b hb x
  have e0 : (putL e s is)[0]?.getD [] = headB e s (entL (mark e s) is) := rfl
  rw [e0, (put_said hok).1, (put_said hok).2.1] at h
  exact h

/-- where one sector is another group's, or was never written, only the other group whole is a group -/
theorem mix_grp (hok : okGroup e s is) (hok' : okGroup e' s' is') (hne : ¬(e = e' ∧ s = s')) (X : List (List UInt8)) (hl : X.length = (putL e s is).length)
    (hsec : ∀ b (h : b < X.length) (x : Fin 8), sec X[b] x.val = sec ((putL e s is)[b]'(by omega)) x.val ∨ (∃ h' : b < (putL e' s' is').length, sec X[b] x.val = sec ((putL e' s' is')[b]) x.val) ∨ (sec X[b] x.val).take 8 = List.replicate 8 0)
    (hsome : ∃ b, ∃ h : b < X.length, ∃ x : Fin 8, (∃ h' : b < (putL e' s' is').length, sec X[b] x.val = sec ((putL e' s' is')[b]) x.val) ∨ (sec X[b] x.val).take 8 = List.replicate 8 0)
    (hg : isGrp X) : X = putL e' s' is' := by
  have st := (okStamp_iff _ _).1 (grp_ok hg)
  have st1 := (okStamp_iff _ _).1 hok.1.1
  have st2 := (okStamp_iff _ _).1 hok'.1.1
  have noz : mark (saidE (X[0]?.getD [])) (saidS (X[0]?.getD [])) ≠ List.replicate 8 0 := mark_ne (by omega) (by omega) (by omega)
  have hthe : saidE (X[0]?.getD []) = e' ∧ saidS (X[0]?.getD []) = s' := by
    obtain ⟨b, hb, x, ⟨h', hx⟩ | hx⟩ := hsome
    · have h1 := grp_marks hg b hb x
      rw [hx, put_marks hok' b h' x] at h1
      obtain ⟨q1, q2⟩ := mark_inj (by omega) (by omega) (by omega) (by omega) h1
      exact ⟨q1.symm, q2.symm⟩
    · exact absurd ((grp_marks hg b hb x).symm.trans hx) noz
  have hall : ∀ b (hb : b < X.length), ∃ h' : b < (putL e' s' is').length, X[b] = (putL e' s' is')[b] := by
    intro b hb
    have each : ∀ x : Fin 8, ∃ h' : b < (putL e' s' is').length, sec X[b] x.val = sec ((putL e' s' is')[b]) x.val := by
      intro x
      rcases hsec b hb x with hx | hx | hx
      · have h1 := grp_marks hg b hb x
        rw [hx, put_marks hok b (by omega) x, hthe.1, hthe.2] at h1
        exact absurd (mark_inj (by omega) (by omega) (by omega) (by omega) h1) hne
      · exact hx
      · exact absurd ((grp_marks hg b hb x).symm.trans hx) noz
    obtain ⟨h', _⟩ := each 0
    refine ⟨h', ?_⟩
    rw [← cat_sec X[b] (grp_len hg b hb), ← cat_sec _ (grp_len (put_grp hok') b h')]
    congr 1
    funext x
    obtain ⟨_, h2⟩ := each x
    exact h2
  have h0 : 0 < X.length := hg.1
  obtain ⟨h0', e0⟩ := hall 0 h0
  have hX0 : X[0]?.getD [] = headB e' s' (entL (mark e' s') is') := by
    rw [List.getElem?_eq_getElem h0, Option.getD_some, e0]
    rfl
  have hlen : X.length = (putL e' s' is').length := by
    have := hg.2.2.1
    rw [hX0, (put_said hok').2.2, entL_length] at this
    rw [this]
    simp [putL]
  refine List.ext_getElem hlen (fun b h1 h2 => ?_)
  obtain ⟨_, e1⟩ := hall b h1
  exact e1
end
end Go.Proofs.YtdkaacjeogifdaaGreat.Rc

/-
  SameLists, SameImages, SameGroup.
-/
namespace Go.Proofs.YtdkaacjeogifdaaGreat.Rc
open Go.RowKit

theorem below_drewN {B : Nat} {a w : World} (h : Below B a w) (n : Nat) : Below B a (w.drewN n) := ⟨h.os, h.tape, h.output, h.size, h.block⟩
theorem LstAt.drewN {w : World} {b o : Nat} {xs : List UInt8} (h : LstAt w b o xs) (n : Nat) : LstAt (w.drewN n) b o xs := h.below (below_drewN (Below.refl _ _) n)

set_option maxRecDepth 100000 in
set_option maxHeartbeats 1000000 in
theorem sameImages_at (a a' : Option Addr) (n c n' c' : Nat) (ls ms : List (Int × List UInt8)) (w : World) (hl : ls.length = n) (hm : ms.length = n') (hn : n ≤ 1000000000) (hL : Imgs w a ls) (hM : Imgs w a' ms) :
    Calls Tryz.prog 9 #[.slice a n c, .slice a' n' c'] w fun r w' => r = .returned (.bool (decide (ls = ms))) ∧ Below w.heap.size w w' := by
  by_cases hnn : n = n'
  · subst hnn
    have HL : Hid (ls.length = n) := hl
    have HM : Hid (ms.length = n) := hm
    have HLL : Hid (Imgs w a ls) := hL
    have HMM : Hid (Imgs w a' ms) := hM
    clear hl hm hL hM
    obtain ⟨q, hq⟩ : ∃ q, q = decide (ls = ms) := ⟨_, rfl⟩
    rw [← hq]
    have HQ : Hid (q = decide (ls = ms)) := hq
    clear hq
    go_enter Tryz.func9, Tryz.ntmps9
    go_wp2_with fail
    go_loopw [5] (fun v u => ∃ k : Nat, k ≤ n ∧ v = .int .i64 (k : Int) ∧ ls.take k = ms.take k ∧ Below w.heap.size w u) (fun v _ => n - (intOf v).toNat)
    case atStart => exact ⟨0, Nat.zero_le _, rfl, by simp, Below.refl _ _⟩
    case round =>
      obtain ⟨k, hk, rfl, ht, B⟩ := hrel
      have HT : Hid (ls.take k = ms.take k) := ht
      clear ht
      by_cases hlt : k < n
      · have k1 : k < ls.length := by rw [HL.out]; exact hlt
        have k2 : k < ms.length := by rw [HM.out]; exact hlt
        obtain ⟨b, o, rfl, hc⟩ := HLL.out (by omega)
        obtain ⟨b', o', rfl, hc'⟩ := HMM.out (by omega)
        obtain ⟨g0, x, cx, g1, g2, g3, g4, g5⟩ := hc k k1
        obtain ⟨f0, y, cy, f1, f2, f3, f4, f5⟩ := hc' k k2
        have lb : b < w.heap.size := block_lt_of_cell g1
        have lb' : b' < w.heap.size := block_lt_of_cell f1
        rw [← B.cell (p := ⟨b, o + k * 2, none⟩) lb] at g0
        rw [← B.cell (p := ⟨b', o' + k * 2, none⟩) lb'] at f0
        rw [← B.cell (p := ⟨b, o + k * 2 + 1, none⟩) lb] at g1
        rw [← B.cell (p := ⟨b', o' + k * 2 + 1, none⟩) lb'] at f1
        have r1 := g5.below B (Nat.le_refl _)
        have r2 := f5.below B (Nat.le_refl _)
        have hstep : Hid (ls.take (k + 1) = ls.take k ++ [ls[k]] ∧ ms.take (k + 1) = ms.take k ++ [ms[k]]) := ⟨List.take_succ_eq_append_getElem k1, List.take_succ_eq_append_getElem k2⟩
        have hmem : Hid (ls = ms → (ls[k]'k1) = (ms[k]'k2)) := fun e => by subst e; rfl
        generalize (ls[k]'k1) = X at g0 g1 g2 r1 hstep hmem
        generalize (ms[k]'k2) = Y at f0 f1 f2 r2 hstep hmem
        obtain ⟨bx, xs⟩ := X
        obtain ⟨bY, ys⟩ := Y
        dsimp only at g0 g1 g2 r1 f0 f1 f2 r2
        clear hc hc' g2 g3 g4 g5 f2 f3 f4 f5 lb lb'
        by_cases hbb : bx = bY
        · subst hbb
          have cS : ∀ q : Nat, Calls Tryz.prog 19 #[.slice x xs.length cx, .slice y ys.length cy] (wr.drewN q) fun e w' => e = .returned (.bool (xs == ys)) ∧ w' = wr.drewN q := fun q => (same_at cx cy xs.length ys.length x y xs ys (wr.drewN q) rfl rfl r1 r2).mono fun e w' ⟨h1, h2⟩ => ⟨h1, h2.symm⟩
          clear r1 r2
          by_cases hxy : xs = ys
          · have hb : (xs == ys) = true := by simp [hxy]
            rw [hb] at cS
            have HCS : Hid _ := cS
            have HXY : Hid _ := hxy
            clear cS hb hxy
            go_wp2_with fail
            go_quiet ((go_at_call 19; exact Calls.quiet_of_same (HCS.out _)))
            have B2 := below_drewN B nq
            clear HCS g0 f0 g1 f1
            go_wp2_with fail
            go_roundw
            case rel => exact ⟨k + 1, by omega, by push_cast; rfl, by rw [hstep.out.1, hstep.out.2, HT.out, HXY.out], B2⟩
            case measure => simp [intOf]; omega
          · have hb : (xs == ys) = false := by simp [hxy]
            rw [hb] at cS
            have HCS : Hid _ := cS
            have hqf : q = false := by rw [HQ.out]; exact decide_eq_false (fun e => hxy (Prod.mk.inj (hmem.out e)).2)
            clear cS hb hxy
            go_wp2_with fail
            go_quiet ((go_at_call 19; exact Calls.quiet_of_same (HCS.out _)))
            have B2 := below_drewN B nq
            clear HCS g0 f0 g1 f1
            go_wp2_with fail
            go_ret
            exact ⟨by rw [hqf]; rfl, B2⟩
        · have hbf : (bx == bY) = false := by simp [hbb]
          have hbn : (bx != bY) = true := by simp [hbb]
          have hqf : q = false := by rw [HQ.out]; exact decide_eq_false (fun e => hbb (Prod.mk.inj (hmem.out e)).1)
          clear r1 r2
          go_wp2_with fail
          go_quiet (fail)
          have B2 := below_drewN B nq
          clear g0 f0 g1 f1
          go_wp2_with fail
          go_ret
          exact ⟨by rw [hqf]; rfl, B2⟩
      · have hke : k = n := by omega
        have hqt : q = true := by
          rw [HQ.out]
          refine decide_eq_true ?_
          have := HT.out
          rwa [List.take_of_length_le (by rw [HL.out]; omega), List.take_of_length_le (by rw [HM.out]; omega)] at this
        go_wp2_with fail
        go_ret
        exact ⟨by rw [hqt]; rfl, B⟩
  · rw [decide_eq_false (fun e => hnn (by rw [← hl, ← hm, e]))]
    have hnb : ((n : Int) == (n' : Int)) = false := by simp; omega
    clear hl hm
    go_enter Tryz.func9, Tryz.ntmps9
    go_wp2_with fail
    go_ret
    exact ⟨rfl, Below.refl _ _⟩

end Go.Proofs.YtdkaacjeogifdaaGreat.Rc

/-
  What the laws' own helpers make: filled, one, CopyLists.
-/
namespace Go.Proofs.YtdkaacjeogifdaaGreat.Rc
open Go.RowKit

/-- the first k bytes are c, the others noughts -/
def fillK (c : UInt8) (k : Nat) : List UInt8 := (List.range 4096).map fun i => if i < k then c else 0
def fill (c : UInt8) : List UInt8 := fillK c 4096
theorem fillK_length (c : UInt8) (k : Nat) : (fillK c k).length = 4096 := by simp [fillK]
theorem fill_length (c : UInt8) : (fill c).length = 4096 := fillK_length c 4096
theorem fillK_get (c : UInt8) (k i : Nat) : (fillK c k)[i]? = if i < 4096 then some (if i < k then c else 0) else none := by
  unfold fillK
  rw [List.getElem?_map]
  by_cases h : i < 4096
  · rw [List.getElem?_range h, if_pos h]; rfl
  · rw [List.getElem?_eq_none (by simp; omega), if_neg h]; rfl
theorem fillK_zero (c : UInt8) : fillK c 0 = List.replicate 4096 0 := by
  apply List.ext_getElem?
  intro i
  rw [fillK_get, List.getElem?_replicate]
  simp
theorem fillK_set (c : UInt8) (k : Nat) (h : k < 4096) : (fillK c k).set k c = fillK c (k + 1) := by
  apply List.ext_getElem?
  intro i
  rw [List.getElem?_set, fillK_get, fillK_get, fillK_length]
  by_cases e : k = i
  · subst e
    rw [if_pos rfl, if_pos h, if_pos h, if_pos (by omega)]
  · rw [if_neg e]
    by_cases h1 : i < k
    · rw [if_pos h1, if_pos (show i < k + 1 by omega)]
    · rw [if_neg h1, if_neg (show ¬ i < k + 1 by omega)]
theorem fill_get (c : UInt8) (i : Nat) (h : i < 4096) : (fill c)[i]? = some c := by
  unfold fill
  rw [fillK_get, if_pos h, if_pos h]

theorem nought_fill (c : UInt8) : nought 4096 = fillK c 0 := by rw [fillK_zero]; rfl

end Go.Proofs.YtdkaacjeogifdaaGreat.Rc

/-
  Made: so many bytes, out of a number.
-/
namespace Go.Proofs.YtdkaacjeogifdaaGreat.Rc
open Go.RowKit

def nx (x : Int) : Int := IntKind.u64.wrap (IntKind.u64.wrap (x * 2862933555777941757) + 3037000493)
/-- the number behind k bytes -/
def seedAt (s : Int) : Nat → Int
  | 0 => nx (IntKind.u64.wrap s)
  | k + 1 => if k % 8 = 0 then nx (seedAt s k) else seedAt s k
def byteAt (s : Int) (k : Nat) : UInt8 := UInt8.ofNat (seedAt s (k + 1) / 1099511627776 % 256).toNat
def madeK (s : Int) (n : Nat) : Nat → List UInt8
  | 0 => nought n
  | k + 1 => (madeK s n k).set k (byteAt s k)
def madeL (s : Int) (n : Nat) : List UInt8 := madeK s n n
theorem madeK_length (s : Int) (n : Nat) : ∀ k, (madeK s n k).length = n
  | 0 => nought_length n
  | k + 1 => by rw [madeK, List.length_set, madeK_length s n k]
theorem byteAt_eq (s : Int) (k : Nat) : ((byteAt s k).toNat : Int) = seedAt s (k + 1) / 1099511627776 % 256 := by
  unfold byteAt
  have h1 : 0 ≤ seedAt s (k + 1) / 1099511627776 % 256 := Int.emod_nonneg _ (by decide)
  have h2 : seedAt s (k + 1) / 1099511627776 % 256 < 256 := Int.emod_lt_of_pos _ (by decide)
  rw [UInt8.toNat_ofNat']
  omega
theorem seedAt_step (s : Int) (k : Nat) (h : k % 8 = 0) : seedAt s (k + 1) = nx (seedAt s k) := by rw [seedAt, if_pos h]
theorem seedAt_same (s : Int) (k : Nat) (h : ¬ k % 8 = 0) : seedAt s (k + 1) = seedAt s k := by rw [seedAt, if_neg h]
theorem nx_range (x : Int) : 0 ≤ nx x ∧ nx x ≤ 18446744073709551615 := by unfold nx; rw [IntKind.wrap_u64]; omega
theorem seedAt_range (s : Int) : ∀ k, 0 ≤ seedAt s k ∧ seedAt s k ≤ 18446744073709551615
  | 0 => nx_range _
  | k + 1 => by rw [seedAt]; split; exact nx_range _; exact seedAt_range s k

set_option maxRecDepth 100000 in
set_option maxHeartbeats 2000000 in
theorem made_at (s : Int) (n : Nat) (w : World) (hn : n ≤ 1000000) :
    Calls Tryz.prog 50 #[.int .i64 s, .int .i64 (n : Int)] w fun e w' => e = .returned (.slice (some ⟨w.heap.size, 0, none⟩) n n) ∧ Own w' w.heap.size (madeL s n) ∧ Below w.heap.size w w' := by
  have hm : ∀ u : World, (Instr.makeSlice 22 (.int .i64 (n : Int)) (.int .i64 (n : Int))).run Tryz.prog u = .ok (.slice (some ⟨u.heap.size, 0, none⟩) n n) (u.alloc (.cells (bcs (madeK s n 0)).toArray 5)) := make_run n (by omega)
  have o0 := own_lit w (madeK s n 0)
  have B0 := (Below.refl w.heap.size w).alloc (Nat.le_refl _) (.cells (bcs (madeK s n 0)).toArray 5)
  obtain ⟨U, hU⟩ : ∃ U, U = w.alloc (.cells (bcs (madeK s n 0)).toArray 5) := ⟨_, rfl⟩
  rw [← hU] at o0 B0
  have HU : Hid _ := hU
  clear hU
  go_enter Tryz.func50, Tryz.ntmps50
  go_wp2_with fail
  rw [← HU.out]
  go_loopw [6, 7] (fun x i wr => ∃ k : Nat, k ≤ n ∧ x = .int .u64 (seedAt s k) ∧ i = .int .i64 k ∧ Own wr w.heap.size (madeK s n k) ∧ Below w.heap.size w wr) (fun _ i _ => n - (intOf i).toNat)
  case atStart => exact ⟨0, Nat.zero_le _, rfl, rfl, o0, B0⟩
  case round =>
    obtain ⟨k, hk, rfl, rfl, o, B⟩ := hrel
    clear o0 B0 hm HU
    by_cases hlt : k < n
    · have hlt2 : (k : Int) < (n : Int) := by omega
      have c0 := o.cell k (by rw [madeK_length]; exact hlt)
      have f0 := o.frozen k
      have o1 := o.store k (byteAt s k)
      have B1 := B.setCell (p := ⟨w.heap.size, k, none⟩) (Nat.le_refl _) (.int .u8 ((byteAt s k).toNat : Int))
      generalize ((madeK s n k)[k]'(by rw [madeK_length]; exact hlt)) = q at c0
      have o1' : Own _ w.heap.size (madeK s n (k + 1)) := o1
      clear o1
      rw [byteAt_eq] at o1' B1
      have r0 := seedAt_range s k
      by_cases h8 : k % 8 = 0
      · have e8 : ((k : Int) % 8 == 0) = true := by simp; omega
        rw [seedAt_step s k h8] at o1' B1
        unfold nx at o1' B1
        have Hs : Hid _ := seedAt_step s k h8
        clear h8
        go_wp2
        go_roundw
        case rel => exact ⟨k + 1, by omega, by rw [Hs.out]; rfl, by go_num, o1', B1⟩
        case measure => simp [intOf]; omega
      · have e8 : ((k : Int) % 8 == 0) = false := by simp; omega
        rw [seedAt_same s k h8] at o1' B1
        have Hs : Hid _ := seedAt_same s k h8
        clear h8
        go_wp2
        go_roundw
        case rel => exact ⟨k + 1, by omega, by rw [Hs.out], by go_num, o1', B1⟩
        case measure => simp [intOf]; omega
    · have hkn : k = n := by omega
      subst k
      go_wp2
      go_ret
      exact ⟨rfl, o, B⟩
end Go.Proofs.YtdkaacjeogifdaaGreat.Rc

/-
  allFit; the law's made.
-/
namespace Go.Proofs.YtdkaacjeogifdaaGreat.H
open Go.RowKit
open Go.Proofs.YtdkaacjeogifdaaGreat.Su (wi)
open Go.Proofs.YtdkaacjeogifdaaGreat.Dk (Box)

/-- the cells of images, whatever their data -/
def CellsI (w : World) (a : Option Addr) (is : List (Int × Option Addr × Nat × Nat)) : Prop :=
  0 < is.length → ∃ b o, a = some ⟨b, o, none⟩ ∧ ∀ j (h : j < is.length), w.cell? ⟨b, o + j * 2, none⟩ = some (.int .i64 is[j].1) ∧ w.cell? ⟨b, o + j * 2 + 1, none⟩ = some (.slice is[j].2.1 is[j].2.2.1 is[j].2.2.2)
def fits (size : Int) (q : Int × Option Addr × Nat × Nat) : Bool := wi q.1 2 (size - 1) && decide (q.2.2.1 = 4096)

set_option maxRecDepth 100000 in
set_option maxHeartbeats 4000000 in
theorem allFit_at (w : World) (a : Option Addr) (n c : Nat) (is : List (Int × Option Addr × Nat × Nat)) (size : Int) (hl : is.length = n) (hn : n ≤ 1000000) (hs : 0 ≤ size ∧ size ≤ 1000000) (hc : CellsI w a is) :
    Calls Tryz.prog 40 #[.slice a n c, .int .i64 size] w fun r w' => r = .returned (.bool (is.all (fits size))) ∧ Below w.heap.size w w' := by
  have HC : Hid (CellsI w a is) := hc
  have HL : Hid (is.length = n) := hl
  obtain ⟨hs1, hs2⟩ := hs
  clear hc hl
  go_enter Tryz.func40, Tryz.ntmps40
  go_wp2_with fail
  go_loopw [9] (fun i u => ∃ k : Nat, k ≤ n ∧ i = .int .i64 (k : Int) ∧ (is.take k).all (fits size) = true ∧ Below w.heap.size w u) (fun i _ => n - (intOf i).toNat)
  case atStart => exact ⟨0, Nat.zero_le _, rfl, by simp, Below.refl _ _⟩
  case round =>
    obtain ⟨k, hk, rfl, hal, B⟩ := hrel
    have HA : Hid ((is.take k).all (fits size) = true) := hal
    clear hal
    by_cases hlt : k < n
    · have hki : (k : Int) < (n : Int) := by omega
      have hkl : k < is.length := by rw [HL.out]; exact hlt
      obtain ⟨b, o, rfl, hcc⟩ := HC.out (by omega)
      obtain ⟨c0, c1⟩ := hcc k hkl
      have hst : Hid ((is.take (k + 1)).all (fits size) = ((is.take k).all (fits size) && fits size is[k])) := by
        show _ = _
        rw [List.take_succ_eq_append_getElem hkl, List.all_append]; simp
      have hno : Hid (fits size is[k] = false → is.all (fits size) = false) := fun h => by
        rw [List.all_eq_false]
        exact ⟨is[k], List.getElem_mem hkl, by rw [h]; simp⟩
      generalize (is[k]'hkl) = q at c0 c1 hst hno
      obtain ⟨qb, qa, qn, qc⟩ := q
      dsimp only at c0 c1
      have l0 := block_lt_of_cell c0
      have x0 := (B.cell (p := ⟨b, o + k * 2, none⟩) l0).trans c0
      have x1 := (B.cell (p := ⟨b, o + k * 2 + 1, none⟩) l0).trans c1
      have bx := Box.new wr #[.int .i64 qb, .slice qa qn qc] 57
      have B1 := B.alloc B.size (.cells #[.int .i64 qb, .slice qa qn qc] 57)
      have y0 := bx.cell 0
      have y1 := bx.cell 1
      simp only [List.getElem?_toArray, List.getElem?_cons_zero, List.getElem?_cons_succ] at y0 y1
      have cW := within_at qb 2 (size - 1) (wr.alloc (.cells #[.int .i64 qb, .slice qa qn qc] 57))
      have wr1 : IntKind.i64.wrap (size - 1) = size - 1 := by rw [IntKind.wrap_i64]; omega
      clear hcc c0 c1 l0 bx
      cases hwi : wi qb 2 (size - 1)
      · have hf : fits size (qb, qa, qn, qc) = false := by simp [fits, hwi]
        have hres := hno.out hf
        rw [hwi] at cW
        have HRes : Hid (is.all (fits size) = false) := hres
        clear hres hf hst hno HA
        go_wp2_with fail
        refine Calls.mono cW ?_
        rintro r u ⟨rfl, rfl⟩
        go_wp2_with fail
        go_ret
        exact ⟨by rw [HRes.out]; rfl, B1⟩
      · rw [hwi] at cW
        by_cases hq : qn = 4096
        · have hf : fits size (qb, qa, qn, qc) = true := by simp [fits, hwi, hq]
          have hal : (is.take (k + 1)).all (fits size) = true := by rw [hst.out, HA.out, hf]; rfl
          have HA2 : Hid ((is.take (k + 1)).all (fits size) = true) := hal
          clear hal hst hno HA hf
          subst hq
          go_wp2_with fail
          refine Calls.mono cW ?_
          rintro r u ⟨rfl, rfl⟩
          go_wp2_with fail
          go_roundw
          case rel => exact ⟨k + 1, by omega, by push_cast; rfl, HA2.out, B1⟩
          case measure => simp [intOf]; omega
        · have hf : fits size (qb, qa, qn, qc) = false := by simp [fits, hwi, hq]
          have hres := hno.out hf
          have hne : ((qn : Int) != 4096) = true := by simp; omega
          have HRes : Hid (is.all (fits size) = false) := hres
          clear hres hq hf hst hno HA
          go_wp2_with fail
          refine Calls.mono cW ?_
          rintro r u ⟨rfl, rfl⟩
          go_wp2_with fail
          go_ret
          exact ⟨by rw [HRes.out]; rfl, B1⟩
    · have hke : k = n := by omega
      have hall : is.all (fits size) = true := by have := HA.out; rw [hke, ← HL.out, List.take_length] at this; exact this
      have HRes : Hid (is.all (fits size) = true) := hall
      clear hall HA
      subst hke
      go_wp2_with fail
      go_ret
      exact ⟨by rw [HRes.out]; rfl, B⟩
end Go.Proofs.YtdkaacjeogifdaaGreat.H

/-
  layout's own calls: within, laid, Of; the document's Of.
-/
namespace Go.Proofs.YtdkaacjeogifdaaGreat.La
open Go.RowKit

/-- a block that was made for one value -/
def Box (w : World) (g : Nat) (cs : Array Value) (t : TypeId) : Prop := w.heap[g]? = some (.cells cs t (0, 0))
theorem Box.cell {w : World} {g : Nat} {cs : Array Value} {t : TypeId} (h : Box w g cs t) (j : Nat) : w.cell? ⟨g, j, none⟩ = cs[j]? := cell_of_row w g j cs t (0, 0) h
theorem Box.lt {w : World} {g : Nat} {cs : Array Value} {t : TypeId} (h : Box w g cs t) : g < w.heap.size := (Array.getElem?_eq_some_iff.1 h).1
theorem Box.below {w w' : World} {g : Nat} {cs : Array Value} {t : TypeId} (h : Box w g cs t) (hb : Below w.heap.size w w') : Box w' g cs t := (hb.block g h.lt).trans h
theorem Box.new (w : World) (cs : Array Value) (t : TypeId) : Box (w.alloc (.cells cs t)) w.heap.size cs t := heap_alloc_new w _

theorem Box.frozen {w : World} {g : Nat} {cs : Array Value} {t : TypeId} (h : Box w g cs t) (j : Nat) : w.frozen? ⟨g, j, none⟩ = false := frozen_of_row w g j cs t h
theorem Box.store {w : World} {g : Nat} {cs : Array Value} {t : TypeId} (h : Box w g cs t) (j : Nat) (v : Value) : Box (w.setCell ⟨g, j, none⟩ v) g (cs.setIfInBounds j v) t := heap_setCell_same w g j cs t v h
theorem Box.alloc {w : World} {g : Nat} {cs : Array Value} {t : TypeId} (h : Box w g cs t) (o : Obj) : Box (w.alloc o) g cs t := (Below.heap_alloc w o g h.lt).trans h
theorem Box.all7 {w : World} {g : Nat} {v0 v1 v2 v3 v4 v5 v6 : Value} {t : TypeId} (h : Box w g #[v0, v1, v2, v3, v4, v5, v6] t) : w.cell? ⟨g, 0, none⟩ = some v0 ∧ w.cell? ⟨g, 1, none⟩ = some v1 ∧ w.cell? ⟨g, 2, none⟩ = some v2 ∧ w.cell? ⟨g, 3, none⟩ = some v3 ∧ w.cell? ⟨g, 4, none⟩ = some v4 ∧ w.cell? ⟨g, 5, none⟩ = some v5 ∧ w.cell? ⟨g, 6, none⟩ = some v6 :=
  ⟨h.cell 0, h.cell 1, h.cell 2, h.cell 3, h.cell 4, h.cell 5, h.cell 6⟩
theorem Box.fr7 {w : World} {g : Nat} {cs : Array Value} {t : TypeId} (h : Box w g cs t) : w.frozen? ⟨g, 0, none⟩ = false ∧ w.frozen? ⟨g, 1, none⟩ = false ∧ w.frozen? ⟨g, 2, none⟩ = false ∧ w.frozen? ⟨g, 3, none⟩ = false ∧ w.frozen? ⟨g, 4, none⟩ = false ∧ w.frozen? ⟨g, 5, none⟩ = false ∧ w.frozen? ⟨g, 6, none⟩ = false :=
  ⟨h.frozen 0, h.frozen 1, h.frozen 2, h.frozen 3, h.frozen 4, h.frozen 5, h.frozen 6⟩
def set7 (w : World) (g : Nat) (u0 u1 u2 u3 u4 u5 u6 : Value) : World := (((((((w.setCell ⟨g, 0, none⟩ u0).setCell ⟨g, 1, none⟩ u1).setCell ⟨g, 2, none⟩ u2).setCell ⟨g, 3, none⟩ u3).setCell ⟨g, 4, none⟩ u4).setCell ⟨g, 5, none⟩ u5).setCell ⟨g, 6, none⟩ u6)
theorem Box.store7 {w : World} {g : Nat} {v0 v1 v2 v3 v4 v5 v6 u0 u1 u2 u3 u4 u5 u6 : Value} {t : TypeId} (h : Box w g #[v0, v1, v2, v3, v4, v5, v6] t) : Box (set7 w g u0 u1 u2 u3 u4 u5 u6) g #[u0, u1, u2, u3, u4, u5, u6] t := by
  have q := (((((((h.store 0 u0).store 1 u1).store 2 u2).store 3 u3).store 4 u4).store 5 u5).store 6 u6)
  unfold set7
  simpa using q
theorem below7 {B : Nat} {w0 w : World} {g : Nat} (h : Below B w0 w) (hg : B ≤ g) (u0 u1 u2 u3 u4 u5 u6 : Value) : Below B w0 (set7 w g u0 u1 u2 u3 u4 u5 u6) := (((((((h.setCell (p := ⟨g, 0, none⟩) hg u0).setCell (p := ⟨g, 1, none⟩) hg u1).setCell (p := ⟨g, 2, none⟩) hg u2).setCell (p := ⟨g, 3, none⟩) hg u3).setCell (p := ⟨g, 4, none⟩) hg u4).setCell (p := ⟨g, 5, none⟩) hg u5).setCell (p := ⟨g, 6, none⟩) hg u6)

/-- the blocks of the log of that many blocks -/
def lgs (n : Nat) : Nat := if n / 8 ≤ 16 then 16 else n / 8

theorem within_at (n a b : Int) (w : World) :
    Calls Tryz.prog 57 #[.int .i64 n, .int .i64 a, .int .i64 b] w fun r w' => r = .returned (.bool (decide (a ≤ n ∧ n ≤ b))) ∧ w = w' := by
  by_cases h1 : a ≤ n
  · by_cases h2 : n ≤ b
    · rw [decide_eq_true ⟨h1, h2⟩]
      go_enter Tryz.func57, Tryz.ntmps57
      go_wp2
      go_ret
      exact ⟨rfl, rfl⟩
    · rw [decide_eq_false (fun h => h2 h.2)]
      go_enter Tryz.func57, Tryz.ntmps57
      go_wp2
      go_ret
      exact ⟨rfl, rfl⟩
  · rw [decide_eq_false (fun h => h1 h.1)]
    go_enter Tryz.func57, Tryz.ntmps57
    go_wp2
    go_ret
    exact ⟨rfl, rfl⟩

theorem lgs_lo (n : Nat) (h : (n : Int) / 8 < 16) : lgs n = 16 := by unfold lgs; split <;> omega
theorem lgs_hi (n : Nat) (h : 16 ≤ (n : Int) / 8) : lgs n = n / 8 := by unfold lgs; split <;> omega
theorem lgs_ge (n : Nat) : 16 ≤ lgs n := by unfold lgs; split <;> omega
theorem lgs_le (n : Nat) (h : n ≤ 512) : lgs n ≤ 64 := by unfold lgs; split <;> omega
theorem lgs_free (n : Nat) (h0 : 64 ≤ n) : 3 + lgs n + n / 16 < n := by unfold lgs; split <;> omega

/-- the layout of n blocks, as a value's parts -/
def layA (n : Nat) : Array Value := #[.int .i64 n, .int .i64 2, .int .i64 (lgs n : Int), .int .i64 (2 + (lgs n : Int)), .int .i64 (3 + (lgs n : Int)), .int .i64 ((n : Int) / 16), .int .i64 (3 + (lgs n : Int) + (n : Int) / 16)]
def noneA : Array Value := #[.int .i64 0, .int .i64 0, .int .i64 0, .int .i64 0, .int .i64 0, .int .i64 0, .int .i64 0]

theorem laid_at (n : Nat) (w : World) (h0 : 64 ≤ n) (h1 : n ≤ 512) :
    Calls Tryz.prog 58 #[.int .i64 n] w fun r w' => r = .returned (.agg (layA n)) ∧ Below w.heap.size w w' := by
  have hx : max ((n : Int) / 8) 16 = (lgs n : Int) := by unfold lgs; split <;> omega
  unfold layA
  go_enter Tryz.func58, Tryz.ntmps58
  go_wp2
  all_goals refine bodyPost_ret (by simp [results, Tryz.results58, go_sem]; rfl) rfl ⟨?_, ((Below.refl w.heap.size w).alloc (Nat.le_refl _) _).alloc (by simp) _⟩
  all_goals first
    | (rw [lgs_lo n (by assumption)]; simp; done)
    | (rw [lgs_hi n (by assumption)]; simp; omega)
    | (rw [hx]; simp; omega)
    | (simp; omega)

theorem of_good (n : Nat) (w : World) (h0 : 64 ≤ n) (h1 : n ≤ 512) :
    Calls Tryz.prog 29 #[.int .i64 n] w fun r w' => r = .returned (.tuple #[.agg (layA n), .int .i64 0]) ∧ Below w.heap.size w w' := by
  go_enter Tryz.func29, Tryz.ntmps29
  go_wp2_with fail
  refine (within_at _ _ _ _).mono ?_
  rintro r w1 ⟨rfl, rfl⟩
  rw [decide_eq_true (by omega)]
  go_wp2_with fail
  refine (laid_at n _ h0 h1).mono ?_
  rintro r w1 ⟨rfl, b1⟩
  have bx := (Box.new w #[.int .i64 0, .int .i64 0, .int .i64 0, .int .i64 0, .int .i64 0, .int .i64 0, .int .i64 0] 24).below b1
  have B1 := ((Below.refl w.heap.size w).alloc (Nat.le_refl _) _).trans (b1.mono (by simp))
  clear b1
  obtain ⟨c0, c1, c2, c3, c4, c5, c6⟩ := bx.all7
  obtain ⟨f0, f1, f2, f3, f4, f5, f6⟩ := bx.fr7
  unfold layA
  go_wp2_with fail
  have y := bx.store7 (u0 := .int .i64 n) (u1 := .int .i64 2) (u2 := .int .i64 (lgs n : Int)) (u3 := .int .i64 (2 + (lgs n : Int))) (u4 := .int .i64 (3 + (lgs n : Int))) (u5 := .int .i64 ((n : Int) / 16)) (u6 := .int .i64 (3 + (lgs n : Int) + (n : Int) / 16))
  unfold set7 at y
  have C1 := below7 B1 (Nat.le_refl _) (.int .i64 n) (.int .i64 2) (.int .i64 (lgs n : Int)) (.int .i64 (2 + (lgs n : Int))) (.int .i64 (3 + (lgs n : Int))) (.int .i64 ((n : Int) / 16)) (.int .i64 (3 + (lgs n : Int) + (n : Int) / 16))
  unfold set7 at C1
  clear bx B1 c0 c1 c2 c3 c4 c5 c6 f0 f1 f2 f3 f4 f5 f6
  obtain ⟨c0, c1, c2, c3, c4, c5, c6⟩ := y.all7
  refine bodyPost_ret (v := .tuple #[.agg (layA n), .int .i64 0]) (by simp only [layA]; simp [results, Tryz.results29, go_sem, c0, c1, c2, c3, c4, c5, c6]) rfl ⟨rfl, C1⟩

theorem of_bad (n : Int) (w : World) (h : ¬(64 ≤ n ∧ n ≤ 512)) :
    Calls Tryz.prog 29 #[.int .i64 n] w fun r w' => r = .returned (.tuple #[.agg noneA, .int .i64 2]) ∧ Below w.heap.size w w' := by
  go_enter Tryz.func29, Tryz.ntmps29
  go_wp2_with fail
  refine (within_at _ _ _ _).mono ?_
  rintro r w1 ⟨rfl, rfl⟩
  rw [decide_eq_false h]
  go_wp2_with fail
  refine bodyPost_ret (v := .tuple #[.agg noneA, .int .i64 2]) (by simp only [noneA]; simp [results, Tryz.results29, go_sem]) rfl ⟨rfl, (Below.refl _ _).alloc (Nat.le_refl _) _⟩

theorem fields23 : Tryz.prog.underlying 24 = some (.struct (Tryz.prog.fieldsOf 24)) := by kernel_rfl
theorem held23 : Tryz.prog.stoodInHeld 24 = false := by kernel_rfl
theorem guard23 : Tryz.prog.eqGuardType Tryz.prog.depth 24 = false := by kernel_rfl
/-- seven numbers are the same -/
def same7 (a b c d e f g a' b' c' d' e' f' g' : Int) : Bool := decide (a = a' ∧ b = b' ∧ c = c' ∧ d = d' ∧ e = e' ∧ f = f' ∧ g = g')
theorem eq23 (u : World) (a b c d e f g a' b' c' d' e' f' g' : Int) : (Op.equalIn 10000 24 (.agg #[.int .i64 a, .int .i64 b, .int .i64 c, .int .i64 d, .int .i64 e, .int .i64 f, .int .i64 g]) (.agg #[.int .i64 a', .int .i64 b', .int .i64 c', .int .i64 d', .int .i64 e', .int .i64 f', .int .i64 g'])).run Tryz.prog u = .ok (same7 a b c d e f g a' b' c' d' e' f' g') u := by
  rw [run_equalIn_agg u 9999 24 _ _ fields23 held23]
  simp only [Program.fieldsOf, Tryz.underlying24]
  simp [go_sem, Op.eqFields, Tryz.underlying3]
  unfold same7
  by_cases h1 : a = a' <;> simp [h1]
  by_cases h2 : b = b' <;> simp [h2]
  by_cases h3 : c = c' <;> simp [h3]
  by_cases h4 : d = d' <;> simp [h4]
  by_cases h5 : e = e' <;> simp [h5]
  by_cases h6 : f = f' <;> simp [h6]
  by_cases h7 : g = g' <;> simp [h7]
theorem eql23 (u : World) (a b c d e f g a' b' c' d' e' f' g' : Int) : (binOp .eql 24 (.agg #[.int .i64 a, .int .i64 b, .int .i64 c, .int .i64 d, .int .i64 e, .int .i64 f, .int .i64 g]) (.agg #[.int .i64 a', .int .i64 b', .int .i64 c', .int .i64 d', .int .i64 e', .int .i64 f', .int .i64 g'])).run Tryz.prog u = .ok (.bool (same7 a b c d e f g a' b' c' d' e' f' g')) u := by
  rw [run_eql_struct, eq23]
  rfl
theorem guardE23 (u : World) (x y : Operand) (xs ys : Array Value) : (eqGuard .eql 24 x y (.agg xs) (.agg ys)).run Tryz.prog u = .ok () u := run_eqGuard_agg u .eql 24 x y xs ys guard23

/-- is it the layout of its blocks -/
def IsLay (a b c d e f g : Int) : Prop := ∃ n : Nat, 64 ≤ n ∧ n ≤ 512 ∧ a = n ∧ b = 2 ∧ c = lgs n ∧ d = 2 + lgs n ∧ e = 3 + lgs n ∧ f = (n : Int) / 16 ∧ g = 3 + (lgs n : Int) + (n : Int) / 16

theorem ref_good (n : Nat) (w : World) (h0 : 64 ≤ n) (h1 : n ≤ 512) :
    Calls Tryz.prog 49 #[.int .i64 n] w fun r w' => r = .returned (.tuple #[.agg (layA n), .int .i64 0]) ∧ Below w.heap.size w w' := by
  unfold layA
  by_cases h : (n : Int) / 8 < 16
  · go_enter Tryz.func49, Tryz.ntmps49
    go_wp2
    refine bodyPost_ret (by simp [results, Tryz.results49, go_sem]; rfl) rfl ⟨?_, ((Below.refl w.heap.size w).alloc (Nat.le_refl _) _).alloc (by simp) _⟩
    rw [lgs_lo n h]
    simp
  · have h' : 16 ≤ (n : Int) / 8 := by omega
    go_enter Tryz.func49, Tryz.ntmps49
    go_wp2
    refine bodyPost_ret (by simp [results, Tryz.results49, go_sem]; rfl) rfl ⟨?_, ((Below.refl w.heap.size w).alloc (Nat.le_refl _) _).alloc (by simp) _⟩
    rw [lgs_hi n h']
    simp
    omega

theorem ref_bad (n : Int) (w : World) (h : ¬(64 ≤ n ∧ n ≤ 512)) :
    Calls Tryz.prog 49 #[.int .i64 n] w fun r w' => r = .returned (.tuple #[.agg noneA, .int .i64 2]) ∧ Below w.heap.size w w' := by
  by_cases h0 : n < 64
  · go_enter Tryz.func49, Tryz.ntmps49
    go_wp2
    exact bodyPost_ret (v := .tuple #[.agg noneA, .int .i64 2]) (by simp only [noneA]; simp [results, Tryz.results49, go_sem]) rfl ⟨rfl, ((Below.refl w.heap.size w).alloc (Nat.le_refl _) _)⟩
  · have h1 : 512 < n := by omega
    go_enter Tryz.func49, Tryz.ntmps49
    go_wp2
    exact bodyPost_ret (v := .tuple #[.agg noneA, .int .i64 2]) (by simp only [noneA]; simp [results, Tryz.results49, go_sem]) rfl ⟨rfl, ((Below.refl w.heap.size w).alloc (Nat.le_refl _) _)⟩

end Go.Proofs.YtdkaacjeogifdaaGreat.La

/-
  The law's layout64 and made.
-/
namespace Go.Proofs.YtdkaacjeogifdaaGreat.H
open Go.RowKit
open Go.Proofs.YtdkaacjeogifdaaGreat.Rc (madeL)

def lay : Array Value := #[.int .i64 64, .int .i64 2, .int .i64 16, .int .i64 18, .int .i64 19, .int .i64 4, .int .i64 23]
theorem lay64 : La.layA 64 = lay := by
  have hL : La.lgs 64 = 16 := by decide
  simp [La.layA, hL, lay]
theorem ref64 (w : World) : Calls Tryz.prog 49 #[.int .i64 64] w fun r w' => r = .returned (.tuple #[.agg lay, .int .i64 0]) ∧ Below w.heap.size w w' := by
  have c := La.ref_good 64 w (by decide) (by decide)
  rw [lay64] at c
  exact c
theorem layout64_at (w : World) : Calls Tryz.prog 23 #[] w fun r w' => r = .returned (.agg lay) ∧ Below w.heap.size w w' := by
  have al := (Below.refl w.heap.size w).alloc (Nat.le_refl _) (.cells #[.int .i64 0, .int .i64 0, .int .i64 0, .int .i64 0, .int .i64 0, .int .i64 0, .int .i64 0] 24)
  have x0 := Dk.Box.new w #[.int .i64 0, .int .i64 0, .int .i64 0, .int .i64 0, .int .i64 0, .int .i64 0, .int .i64 0] 24
  have cO := ref64 (w.alloc (.cells #[.int .i64 0, .int .i64 0, .int .i64 0, .int .i64 0, .int .i64 0, .int .i64 0, .int .i64 0] 24))
  unfold lay at cO ⊢
  go_enter Tryz.func23, Tryz.ntmps23
  go_wp2_with fail
  refine Calls.mono cO ?_
  rintro r u1 ⟨rfl, b1⟩
  have B1 := al.trans (b1.mono al.size)
  have x1 := (x0.below b1).alloc (.cells #[.int .i64 64, .int .i64 2, .int .i64 16, .int .i64 18, .int .i64 19, .int .i64 4, .int .i64 23] 24)
  have B2 := B1.alloc B1.size (.cells #[.int .i64 64, .int .i64 2, .int .i64 16, .int .i64 18, .int .i64 19, .int .i64 4, .int .i64 23] 24)
  clear b1 cO al x0
  have f0 := x1.frozen 0
  have f1 := x1.frozen 1
  have f2 := x1.frozen 2
  have f3 := x1.frozen 3
  have f4 := x1.frozen 4
  have f5 := x1.frozen 5
  have f6 := x1.frozen 6
  have c0 := x1.cell 0
  have c1 := x1.cell 1
  have c2 := x1.cell 2
  have c3 := x1.cell 3
  have c4 := x1.cell 4
  have c5 := x1.cell 5
  have c6 := x1.cell 6
  simp at c0 c1 c2 c3 c4 c5 c6
  have x2 := ((((((x1.store 0 (.int .i64 64)).store 1 (.int .i64 2)).store 2 (.int .i64 16)).store 3 (.int .i64 18)).store 4 (.int .i64 19)).store 5 (.int .i64 4)).store 6 (.int .i64 23)
  have B3 := ((((((B2.setCell (p := ⟨w.heap.size, 0, none⟩) (Nat.le_refl _) (.int .i64 64)).setCell (p := ⟨w.heap.size, 1, none⟩) (Nat.le_refl _) (.int .i64 2)).setCell (p := ⟨w.heap.size, 2, none⟩) (Nat.le_refl _) (.int .i64 16)).setCell (p := ⟨w.heap.size, 3, none⟩) (Nat.le_refl _) (.int .i64 18)).setCell (p := ⟨w.heap.size, 4, none⟩) (Nat.le_refl _) (.int .i64 19)).setCell (p := ⟨w.heap.size, 5, none⟩) (Nat.le_refl _) (.int .i64 4)).setCell (p := ⟨w.heap.size, 6, none⟩) (Nat.le_refl _) (.int .i64 23)
  go_wp2_with fail
  have d0 := x2.cell 0
  have d1 := x2.cell 1
  have d2 := x2.cell 2
  have d3 := x2.cell 3
  have d4 := x2.cell 4
  have d5 := x2.cell 5
  have d6 := x2.cell 6
  simp at d0 d1 d2 d3 d4 d5 d6
  exact bodyPost_ret (v := .agg #[.int .i64 64, .int .i64 2, .int .i64 16, .int .i64 18, .int .i64 19, .int .i64 4, .int .i64 23]) (by simp [results, Tryz.results23, go_sem, d0, d1, d2, d3, d4, d5, d6]) rfl ⟨rfl, B3⟩

theorem made_at (n z : Int) (w : World) : Calls Tryz.prog 24 #[.int .i64 n, .int .i64 z] w fun r w' => ∃ g, r = .returned (.agg #[.int .i64 n, .slice (some ⟨g, 0, none⟩) 4096 4096]) ∧ w.heap.size ≤ g ∧ Rc.Own w' g (madeL z 4096) ∧ Below w.heap.size w w' := by
  have al := (Below.refl w.heap.size w).alloc (Nat.le_refl _) (.cells #[.int .i64 0, .slice none 0 0] 57)
  have x0 := Dk.Box.new w #[.int .i64 0, .slice none 0 0] 57
  have cM := Rc.made_at z 4096 (w.alloc (.cells #[.int .i64 0, .slice none 0 0] 57)) (by decide)
  have e1 : (w.alloc (.cells #[.int .i64 0, .slice none 0 0] 57)).heap.size = w.heap.size + 1 := by simp
  rw [e1] at cM
  clear e1
  generalize madeL z 4096 = ml at cM ⊢
  go_enter Tryz.func24, Tryz.ntmps24
  go_wp2_with fail
  refine Calls.mono cM ?_
  rintro r u1 ⟨rfl, ho, b1⟩
  have b1 : Below (w.alloc (.cells #[.int .i64 0, .slice none 0 0] 57)).heap.size (w.alloc (.cells #[.int .i64 0, .slice none 0 0] 57)) u1 := by simpa using b1
  have B1 := al.trans (b1.mono al.size)
  have x1 := x0.below b1
  clear b1 cM al x0
  have f0 := x1.frozen 0
  have f1 := x1.frozen 1
  have c0 := x1.cell 0
  have c1 := x1.cell 1
  simp at c0 c1
  have x2 := (x1.store 0 (.int .i64 n)).store 1 (.slice (some ⟨w.heap.size + 1, 0, none⟩) 4096 4096)
  have B3 := (B1.setCell (p := ⟨w.heap.size, 0, none⟩) (Nat.le_refl _) (.int .i64 n)).setCell (p := ⟨w.heap.size, 1, none⟩) (Nat.le_refl _) (.slice (some ⟨w.heap.size + 1, 0, none⟩) 4096 4096)
  have HO : Hid (Rc.Own u1 (w.heap.size + 1) ml) := ho
  clear ho
  go_wp2_with fail
  have d0 := x2.cell 0
  have d1 := x2.cell 1
  simp at d0 d1
  refine bodyPost_ret (v := .agg #[.int .i64 n, .slice (some ⟨w.heap.size + 1, 0, none⟩) 4096 4096]) (by simp [results, Tryz.results24, go_sem, d0, d1]) rfl ⟨w.heap.size + 1, rfl, Nat.le_succ _, ?_, B3⟩
  have e := HO.out
  unfold Rc.Own at e ⊢
  rw [heap_setCell_other, heap_setCell_other]
  · exact e
  · exact Nat.ne_of_gt (Nat.lt_succ_self _)
  · exact Nat.ne_of_gt (Nat.lt_succ_self _)
end Go.Proofs.YtdkaacjeogifdaaGreat.H

/-
  Home: the last image of each block stands in a map; then rising.
-/
namespace Go.Proofs.YtdkaacjeogifdaaGreat.H
open Go.RowKit Go.Maps
open Go.Proofs.YtdkaacjeogifdaaGreat.Su (wi)
open Go.Proofs.YtdkaacjeogifdaaGreat.Dk (Box Upd)

abbrev Im := Int × Option Addr × Nat × Nat
def imV (q : Im) : Value := .agg #[.int .i64 q.1, .slice q.2.1 q.2.2.1 q.2.2.2]
/-- the last image of each block -/
def mOf (L : List Im) : Int → Option Value := L.foldl (fun m q => fun j => if j = q.1 then some (imV q) else m j) (fun _ => none)
theorem mOf_snoc (L : List Im) (q : Im) : mOf (L ++ [q]) = fun j => if j = q.1 then some (imV q) else mOf L j := by simp [mOf, List.foldl_append]
theorem mOf_some' : ∀ (L : List Im) (m0 : Int → Option Value) (k : Int) (v : Value), (L.foldl (fun m q => fun j => if j = q.1 then some (imV q) else m j) m0) k = some v → (∃ q ∈ L, q.1 = k ∧ v = imV q) ∨ m0 k = some v
  | [], m0, k, v, h => .inr h
  | q :: r, m0, k, v, h => by
    rw [List.foldl_cons] at h
    rcases mOf_some' r _ k v h with ⟨p, hp, h1, h2⟩ | h
    · exact .inl ⟨p, List.mem_cons_of_mem _ hp, h1, h2⟩
    · by_cases e : k = q.1
      · rw [if_pos e] at h
        injection h with h
        exact .inl ⟨q, List.mem_cons_self .., e.symm, h.symm⟩
      · rw [if_neg e] at h
        exact .inr h
theorem mOf_some (L : List Im) (k : Int) (v : Value) (h : mOf L k = some v) : ∃ q ∈ L, q.1 = k ∧ v = imV q := by
  rcases mOf_some' L _ k v h with h | h
  · exact h
  · cases h
theorem nodup_le : ∀ (l r : List Int), l.Nodup → (∀ x ∈ l, x ∈ r) → l.length ≤ r.length
  | [], r, _, _ => Nat.zero_le _
  | x :: t, r, hn, hs => by
    rw [List.nodup_cons] at hn
    have h1 := hs x (List.mem_cons_self ..)
    have := nodup_le t (r.erase x) hn.2 (fun y hy => (List.mem_erase_of_ne (fun e => hn.1 (by rw [← e]; exact hy))).2 (hs y (List.mem_cons_of_mem _ hy)))
    rw [List.length_erase_of_mem h1] at this
    have h2 := List.length_pos_of_mem h1
    rw [List.length_cons]
    omega

theorem MapI.tight {w : World} {b n : Nat} {m : Int → Option Value} (h : MapI w b n m) (hk : ∀ k, (m k).isSome = true → 0 ≤ k ∧ k < 512) : MapI w b 512 m := by
  obtain ⟨D', h1, hnd, hmem⟩ := h.keys
  obtain ⟨D, ⟨es, cl, e1, e2, e3, e4⟩, h3⟩ := h
  obtain ⟨es', cl', f1, f2, f3, f4⟩ := h1
  rw [e1] at f1
  injection f1 with f1
  injection f1 with f1 f1'
  subst f1
  have hlen : (intKeys D').length = es.size := by
    rw [f4]
    simp [intKeys, length_sorted]
  have hle : (intKeys D').length ≤ 512 := by
    have hsub : ∀ x ∈ intKeys D', x ∈ (List.range 512).map (fun i : Nat => (i : Int)) := fun x hx => by
      obtain ⟨h0, h5⟩ := hk x ((hmem x).1 hx)
      exact List.mem_map.2 ⟨x.toNat, by simp; omega, by omega⟩
    have h2 := nodup_le _ _ hnd hsub
    simpa using h2
  exact ⟨D, ⟨es, cl, e1, e2, by omega, e4⟩, h3⟩

/-- groups in memory -/
structure Gr where
  e : Int
  q : Int
  a : Option Addr
  c : Nat
  is : List Im
def CellsG (w : World) (a : Option Addr) (gs : List Gr) : Prop :=
  0 < gs.length → ∃ b o, a = some ⟨b, o, none⟩ ∧ ∀ j (h : j < gs.length), w.cell? ⟨b, o + j * 3, none⟩ = some (.int .i64 gs[j].e) ∧ w.cell? ⟨b, o + j * 3 + 1, none⟩ = some (.int .i64 gs[j].q) ∧ w.cell? ⟨b, o + j * 3 + 2, none⟩ = some (.slice gs[j].a gs[j].is.length gs[j].c) ∧ CellsI w gs[j].a gs[j].is ∧ gs[j].is.length ≤ 1000000000000
def allIs (gs : List Gr) : List Im := gs.flatMap (·.is)
theorem allIs_take {gs : List Gr} {k : Nat} (h : k < gs.length) : allIs (gs.take (k + 1)) = allIs (gs.take k) ++ gs[k].is := by
  unfold allIs
  rw [List.take_succ_eq_append_getElem h, List.flatMap_append]
  simp
def rightIm (lo hi : Int) (q : Im) : Bool := wi q.1 lo hi
theorem keysIn {lo hi : Int} {L : List Im} (h : L.all (rightIm lo hi) = true) (h0 : 0 ≤ lo) (h1 : hi < 512) : ∀ k, (mOf L k).isSome = true → 0 ≤ k ∧ k < 512 := fun k hk => by
  obtain ⟨v, hv⟩ := Option.isSome_iff_exists.1 hk
  obtain ⟨q, hq, rfl, _⟩ := mOf_some L k v hv
  have := List.all_eq_true.1 h q hq
  simp [rightIm, wi] at this
  omega

/-- what stands in the loops -/
structure St (w : World) (gl gm : Nat) (LA : Array Value) (L : List Im) (lo hi : Int) (u : World) : Prop where
  map : MapI u gm 512 (mOf L)
  all : L.all (rightIm lo hi) = true
  box : Box u gl LA 24
  below : Below w.heap.size w u
theorem St.alloc {w u : World} {gl gm : Nat} {LA : Array Value} {L : List Im} {lo hi : Int} (h : St w gl gm LA L lo hi u) (o : Obj) : St w gl gm LA L lo hi (u.alloc o) :=
  ⟨h.map.below ((Below.refl _ u).alloc (Nat.le_refl _) o), h.all, h.box.alloc o, h.below.alloc h.below.size o⟩
theorem St.put {w u : World} {gl gm : Nat} {LA : Array Value} {L : List Im} {lo hi : Int} (h : St w gl gm LA L lo hi u) (hm : w.heap.size ≤ gm) (hne : gl ≠ gm) (h0 : 0 ≤ lo) (h1 : hi < 512) (q : Im) (hq : rightIm lo hi q = true) :
    ∃ u', (Instr.mapUpdate 67 (.map (some gm)) (.int .i64 q.1) (imV q)).run Tryz.prog u = .ok () u' ∧ St w gl gm LA (L ++ [q]) lo hi u' ∧ u.grownBy u' (some gm) := by
  have hw : (Lit.int .i64 q.1).wf = true := by
    simp [rightIm, wi] at hq
    simp [Lit.wf, IntKind.min, IntKind.max, IntKind.bits, IntKind.signed]
    omega
  obtain ⟨u', r, m, g⟩ := h.map.update (by unfold maxLen; omega) q.1 hw (imV q)
  have ha : (L ++ [q]).all (rightIm lo hi) = true := by rw [List.all_append, h.all]; simpa using hq
  rw [← mOf_snoc] at m
  exact ⟨u', r, ⟨m.tight (keysIn ha h0 h1), ha, (g.block gl h.box.lt (fun e => by injection e with e; exact hne e)).trans h.box, h.below.grown g h.below.size (fun k e => by cases e; exact hm)⟩, g⟩

theorem neq7 (u : World) (a b c d e f g a' b' c' d' e' f' g' : Int) : (binOp .neq 24 (.agg #[.int .i64 a, .int .i64 b, .int .i64 c, .int .i64 d, .int .i64 e, .int .i64 f, .int .i64 g]) (.agg #[.int .i64 a', .int .i64 b', .int .i64 c', .int .i64 d', .int .i64 e', .int .i64 f', .int .i64 g'])).run Tryz.prog u = .ok (.bool (!La.same7 a b c d e f g a' b' c' d' e' f' g')) u := by
  have h := La.eq23 u a b c d e f g a' b' c' d' e' f' g'
  simp only [binOp]
  simp [Op.equal, Op.maxDepth, h]

set_option maxRecDepth 100000 in
set_option maxHeartbeats 4000000 in
theorem home_in (w : World) (nb : Nat) (l1 l2 l3 l4 l5 l6 : Int) (ga : Option Addr) (gn gc : Nat) (gs : List Gr) (Q : Value → World → Prop)
    (hL : La.layA nb = #[.int .i64 nb, .int .i64 l1, .int .i64 l2, .int .i64 l3, .int .i64 l4, .int .i64 l5, .int .i64 l6])
    (h64 : 64 ≤ nb) (h512 : nb ≤ 512) (h3 : 0 ≤ l3) (hgn : gs.length = gn) (hgm : gn ≤ 1000000) (hG : CellsG w ga gs)
    (cR : (allIs gs).all (rightIm l3 (nb - 1)) = true → ∀ u gm, MapI u gm 512 (mOf (allIs gs)) → Below w.heap.size w u → Calls Tryz.prog 31 #[.map (some gm)] u fun r w' => ∃ v, r = .returned v ∧ Q v w' ∧ Below w.heap.size u w') :
    Calls Tryz.prog 7 #[.agg #[.int .i64 nb, .int .i64 l1, .int .i64 l2, .int .i64 l3, .int .i64 l4, .int .i64 l5, .int .i64 l6], .slice ga gn gc] w fun r w' =>
      ((allIs gs).all (rightIm l3 (nb - 1)) = true → ∃ v, r = .returned (.tuple #[v, .int .i64 0]) ∧ Q v w') ∧ ((allIs gs).all (rightIm l3 (nb - 1)) = false → r = .returned (.tuple #[.slice none 0 0, .int .i64 90])) ∧ Below w.heap.size w w' := by
  have al := (Below.refl w.heap.size w).alloc (Nat.le_refl _) (.cells #[.int .i64 nb, .int .i64 l1, .int .i64 l2, .int .i64 l3, .int .i64 l4, .int .i64 l5, .int .i64 l6] 24)
  have x := Box.new w #[.int .i64 nb, .int .i64 l1, .int .i64 l2, .int .i64 l3, .int .i64 l4, .int .i64 l5, .int .i64 l6] 24
  have c0 := x.cell 0
  simp only [List.getElem?_toArray, List.getElem?_cons_zero] at c0
  have cO := La.of_good nb (w.alloc (.cells #[.int .i64 nb, .int .i64 l1, .int .i64 l2, .int .i64 l3, .int .i64 l4, .int .i64 l5, .int .i64 l6] 24)) h64 h512
  rw [hL] at cO
  have HG : Hid (CellsG w ga gs) := hG
  have HN : Hid (gs.length = gn) := hgn
  have HR : Hid ((allIs gs).all (rightIm l3 (nb - 1)) = true → ∀ u gm, MapI u gm 512 (mOf (allIs gs)) → Below w.heap.size w u → Calls Tryz.prog 31 #[.map (some gm)] u fun r w' => ∃ v, r = .returned v ∧ Q v w' ∧ Below w.heap.size u w') := cR
  have H3 : Hid (0 ≤ l3 ∧ (nb : Int) - 1 < 512) := ⟨h3, by omega⟩
  have hq : ∀ u, (binOp .neq 24 (.agg #[.int .i64 nb, .int .i64 l1, .int .i64 l2, .int .i64 l3, .int .i64 l4, .int .i64 l5, .int .i64 l6]) (.agg #[.int .i64 nb, .int .i64 l1, .int .i64 l2, .int .i64 l3, .int .i64 l4, .int .i64 l5, .int .i64 l6])).run Tryz.prog u = .ok (.bool false) u := fun u => by
    rw [neq7]; simp [La.same7]
  have wr1 : IntKind.i64.wrap ((nb : Int) - 1) = nb - 1 := by rw [IntKind.wrap_i64]; omega
  have hmk := @run_makeMap Tryz.prog
  clear hG cR h3 hgn hL
  go_enter Tryz.func7, Tryz.ntmps7
  go_wp2_with fail
  refine Calls.mono cO ?_
  rintro r u1 ⟨rfl, b1⟩
  have B1 := al.trans (b1.mono al.size)
  have x1 := (x.below b1).alloc (.cells #[.int .i64 nb, .int .i64 l1, .int .i64 l2, .int .i64 l3, .int .i64 l4, .int .i64 l5, .int .i64 l6] 24)
  have y1 := Box.new u1 #[.int .i64 nb, .int .i64 l1, .int .i64 l2, .int .i64 l3, .int .i64 l4, .int .i64 l5, .int .i64 l6] 24
  have B2 := B1.alloc B1.size (.cells #[.int .i64 nb, .int .i64 l1, .int .i64 l2, .int .i64 l3, .int .i64 l4, .int .i64 l5, .int .i64 l6] 24)
  have zz : w.heap.size < u1.heap.size := Nat.lt_of_lt_of_le (by simp) b1.size
  have c0 := x1.cell 0
  have c1 := x1.cell 1
  have c2 := x1.cell 2
  have c3 := x1.cell 3
  have c4 := x1.cell 4
  have c5 := x1.cell 5
  have c6 := x1.cell 6
  have d0 := y1.cell 0
  have d1 := y1.cell 1
  have d2 := y1.cell 2
  have d3 := y1.cell 3
  have d4 := y1.cell 4
  have d5 := y1.cell 5
  have d6 := y1.cell 6
  simp only [List.getElem?_toArray, List.getElem?_cons_zero, List.getElem?_cons_succ] at c0 c1 c2 c3 c4 c5 c6 d0 d1 d2 d3 d4 d5 d6
  have S0 : St w w.heap.size (u1.heap.size + 1) #[.int .i64 nb, .int .i64 l1, .int .i64 l2, .int .i64 l3, .int .i64 l4, .int .i64 l5, .int .i64 l6] [] l3 (nb - 1) ((u1.alloc (.cells #[.int .i64 nb, .int .i64 l1, .int .i64 l2, .int .i64 l3, .int .i64 l4, .int .i64 l5, .int .i64 l6] 24)).alloc (.map #[] 0)) := by
    have m := MapI.made (u1.alloc (.cells #[.int .i64 nb, .int .i64 l1, .int .i64 l2, .int .i64 l3, .int .i64 l4, .int .i64 l5, .int .i64 l6] 24))
    rw [show (u1.alloc (.cells #[.int .i64 nb, .int .i64 l1, .int .i64 l2, .int .i64 l3, .int .i64 l4, .int .i64 l5, .int .i64 l6] 24)).heap.size = u1.heap.size + 1 by simp] at m
    exact ⟨m.tight (fun k h => by simp at h), rfl, x1.alloc _, B2.alloc B2.size _⟩
  have HS0 : Hid (St w w.heap.size (u1.heap.size + 1) #[.int .i64 nb, .int .i64 l1, .int .i64 l2, .int .i64 l3, .int .i64 l4, .int .i64 l5, .int .i64 l6] [] l3 (nb - 1) ((u1.alloc (.cells #[.int .i64 nb, .int .i64 l1, .int .i64 l2, .int .i64 l3, .int .i64 l4, .int .i64 l5, .int .i64 l6] 24)).alloc (.map #[] 0))) := S0
  clear cO b1 x al x1 y1 B1 B2 S0
  go_wp2_with fail
  clear c0 c1 c2 c3 c4 c5 c6 d0 d1 d2 d3 d4 d5 d6
  obtain ⟨LA, hLA⟩ : ∃ LA : Array Value, LA = #[.int .i64 nb, .int .i64 l1, .int .i64 l2, .int .i64 l3, .int .i64 l4, .int .i64 l5, .int .i64 l6] := ⟨_, rfl⟩
  have HLA : Hid (LA = #[.int .i64 nb, .int .i64 l1, .int .i64 l2, .int .i64 l3, .int .i64 l4, .int .i64 l5, .int .i64 l6]) := hLA
  rw [← hLA] at HS0
  clear hLA
  have HZ : Hid (w.heap.size < u1.heap.size) := zz
  clear zz
  go_loopw [29] (fun i u => ∃ k : Nat, k ≤ gn ∧ i = .int .i64 (k : Int) ∧ St w w.heap.size (u1.heap.size + 1) LA (allIs (gs.take k)) l3 (nb - 1) u) (fun i _ => gn - (intOf i).toNat)
  case atStart => exact ⟨0, Nat.zero_le _, rfl, by rw [HLA.out] at HS0 ⊢; exact HS0.out⟩
  case round =>
    obtain ⟨k, hk, rfl, hS⟩ := hrel
    have HS : Hid (St w w.heap.size (u1.heap.size + 1) LA (allIs (gs.take k)) l3 (nb - 1) wr) := hS
    have B := hS.below
    clear hS HS0
    by_cases hlt : k < gn
    · have hki : (k : Int) < (gn : Int) := by omega
      have hkl : k < gs.length := by rw [HN.out]; exact hlt
      obtain ⟨b, o, rfl, hcc⟩ := HG.out (by omega)
      obtain ⟨g0, g1, g2, hci, hil⟩ := hcc k hkl
      have hnext : Hid (allIs (gs.take (k + 1)) = allIs (gs.take k) ++ gs[k].is) := allIs_take hkl
      have hmem : Hid (∀ q ∈ gs[k].is, q ∈ allIs gs) := fun q hq => List.mem_flatMap.2 ⟨gs[k], List.getElem_mem hkl, hq⟩
      generalize (gs[k]'hkl) = gr at g0 g1 g2 hci hil hnext hmem
      obtain ⟨ge, gq, ia, ic, is⟩ := gr
      dsimp only at g0 g1 g2 hci hil hnext hmem
      obtain ⟨n, hn⟩ : ∃ n, n = is.length := ⟨_, rfl⟩
      have HNi : Hid (n = is.length) := hn
      rw [← hn] at g2 hil
      clear hn
      have lb := block_lt_of_cell g0
      have e0 := (B.cell (p := ⟨b, o + k * 3, none⟩) lb).trans g0
      have e1 := (B.cell (p := ⟨b, o + k * 3 + 1, none⟩) lb).trans g1
      have e2 := (B.cell (p := ⟨b, o + k * 3 + 2, none⟩) lb).trans g2
      have HCI : Hid (CellsI w ia is) := hci
      have bx := Box.new wr #[.int .i64 ge, .int .i64 gq, .slice ia n ic] 60
      have y2 := bx.cell 2
      simp only [List.getElem?_toArray, List.getElem?_cons_zero, List.getElem?_cons_succ] at y2
      have HS1 : Hid (St w w.heap.size (u1.heap.size + 1) LA (allIs (gs.take k)) l3 (nb - 1) (wr.alloc (.cells #[.int .i64 ge, .int .i64 gq, .slice ia n ic] 60))) := HS.out.alloc _
      clear g0 g1 g2 hcc hci lb bx B
      go_wp2_with fail
      clear e0 e1 e2 y2
      go_loopw [36] (fun i u => ∃ j : Nat, j ≤ n ∧ i = .int .i64 (j : Int) ∧ St w w.heap.size (u1.heap.size + 1) LA (allIs (gs.take k) ++ is.take j) l3 (nb - 1) u) (fun i _ => n - (intOf i).toNat)
      case atStart => exact ⟨0, Nat.zero_le _, rfl, by rw [List.take_zero, List.append_nil]; exact HS1.out⟩
      case round =>
        obtain ⟨j, hj, rfl, hS⟩ := hrel
        have HT : Hid (St w w.heap.size (u1.heap.size + 1) LA (allIs (gs.take k) ++ is.take j) l3 (nb - 1) wr) := hS
        have B := hS.below
        clear hS HS1 HS
        by_cases hjt : j < n
        · have hji : (j : Int) < (n : Int) := by omega
          have hjl : j < is.length := by rw [← HNi.out]; exact hjt
          obtain ⟨b2, o2, rfl, hcc⟩ := HCI.out (by omega)
          obtain ⟨g0, g1⟩ := hcc j hjl
          have hst : Hid (allIs (gs.take k) ++ is.take (j + 1) = (allIs (gs.take k) ++ is.take j) ++ [is[j]]) := by
            show _ = _
            rw [List.take_succ_eq_append_getElem hjl, List.append_assoc]
          have hin : Hid (is[j] ∈ allIs gs) := hmem.out _ (List.getElem_mem hjl)
          generalize (is[j]'hjl) = q at g0 g1 hst hin
          obtain ⟨qb, qa, qn, qc⟩ := q
          dsimp only at g0 g1
          have lb := block_lt_of_cell g0
          have e0 := (B.cell (p := ⟨b2, o2 + j * 2, none⟩) lb).trans g0
          have e1 := (B.cell (p := ⟨b2, o2 + j * 2 + 1, none⟩) lb).trans g1
          have bx := Box.new wr #[.int .i64 qb, .slice qa qn qc] 57
          have S1 := HT.out.alloc (.cells #[.int .i64 qb, .slice qa qn qc] 57)
          have lx := S1.box
          rw [HLA.out] at lx
          have y0 := bx.cell 0
          have y1 := bx.cell 1
          have z0 := lx.cell 0
          have z3 := lx.cell 3
          simp only [List.getElem?_toArray, List.getElem?_cons_zero, List.getElem?_cons_succ] at y0 y1 z0 z3
          have cW := within_at qb l3 (nb - 1) (wr.alloc (.cells #[.int .i64 qb, .slice qa qn qc] 57))
          have BB := S1.below
          clear hcc g0 g1 lb lx B
          cases hr : wi qb l3 (nb - 1) with
          | false =>
            rw [hr] at cW
            have hno : Hid ((allIs gs).all (rightIm l3 (nb - 1)) = false) := by
              show _ = _
              rw [List.all_eq_false]
              exact ⟨_, hin.out, by simp [rightIm, hr]⟩
            clear S1 hr
            go_wp2_with fail
            refine Calls.mono cW ?_
            rintro r u2 ⟨rfl, rfl⟩
            go_wp2_with fail
            exact bodyPost_ret (v := .tuple #[.slice none 0 0, .int .i64 90]) (by simp [results, Tryz.results7, go_sem]) rfl ⟨fun h => (by rw [hno.out] at h; cases h), fun _ => rfl, BB⟩
          | true =>
            rw [hr] at cW
            obtain ⟨u', hrun, S2, gb⟩ := S1.put (by have := HZ.out; omega) (by have := HZ.out; omega) H3.out.1 H3.out.2 (qb, qa, qn, qc) hr
            have HS2 : Hid (St w w.heap.size (u1.heap.size + 1) LA ((allIs (gs.take k) ++ is.take j) ++ [(qb, qa, qn, qc)]) l3 (nb - 1) u') := S2
            unfold imV at hrun
            dsimp only at hrun
            clear S1 S2 gb hr
            go_wp2_with fail
            refine Calls.mono cW ?_
            rintro r u2 ⟨rfl, rfl⟩
            go_wp2_with fail
            go_roundw
            case rel => exact ⟨j + 1, by omega, by push_cast; rfl, by rw [hst.out]; exact HS2.out⟩
            case measure => simp [intOf]; omega
        · have hje : j = n := by omega
          have hS2 : Hid (St w w.heap.size (u1.heap.size + 1) LA (allIs (gs.take (k + 1))) l3 (nb - 1) wr) := by
            have := HT.out
            rw [hje, HNi.out, List.take_length, ← hnext.out] at this
            exact this
          clear HT B
          subst hje
          go_wp2_with fail
          go_roundw
          case rel => exact ⟨k + 1, by omega, by push_cast; rfl, hS2.out⟩
          case measure => simp [intOf]; omega
    · have hke : k = gn := by omega
      have hS2 : St w w.heap.size (u1.heap.size + 1) LA (allIs gs) l3 (nb - 1) wr := by
        have := HS.out
        rw [hke, ← HN.out, List.take_length] at this
        exact this
      have cc := HR.out hS2.all wr (u1.heap.size + 1) hS2.map hS2.below
      have HA : Hid ((allIs gs).all (rightIm l3 (nb - 1)) = true) := hS2.all
      clear HS hS2
      subst hke
      go_wp2_with fail
      refine Calls.mono cc ?_
      rintro r u2 ⟨v, rfl, hQ, b2⟩
      go_wp2_with fail
      exact bodyPost_ret (v := .tuple #[v, .int .i64 0]) (by simp [results, Tryz.results7, go_sem]) rfl ⟨fun _ => ⟨v, rfl, hQ⟩, fun h => (by rw [HA.out] at h; cases h), B.trans b2⟩
end Go.Proofs.YtdkaacjeogifdaaGreat.H

/-
  slices.Sorted(maps.Keys(m)): the keys, by rising numbers.
-/
namespace Go.Proofs.YtdkaacjeogifdaaGreat.H
open Go.RowKit Go.Maps Go.Sort Go.Shelf

theorem keys_at (mb : Option Nat) (W : World) : Calls Tryz.prog 60 #[.map mb] W fun e w' => e = .returned (.func (.func 79) #[] #[.pointer (some ⟨W.heap.size, 0, none⟩)]) ∧ w' = W.alloc (.cells #[.map mb] 67) :=
  (callsIn_wide (n := 5)).1 (AnyZI.keys_in keysA Fence.wide 5 trivial rfl mb W)

/-- ks are m's keys, rising -/
def Rising (m : Int → Option Value) (ks : List Int) : Prop := ks.Pairwise (· < ·) ∧ ∀ x, x ∈ ks ↔ (m x).isSome = true
theorem rising_of {m : Int → Option Value} {ss : List Int} (hnd : ss.Nodup) (hm : ∀ x, x ∈ ss ↔ (m x).isSome = true) : Rising m (ss.mergeSort (fun x y => decide (x ≤ y))) := by
  refine ⟨?_, fun x => by rw [List.mem_mergeSort]; exact hm x⟩
  have h1 := List.pairwise_mergeSort (le := fun x y : Int => decide (x ≤ y)) (fun a b c h1 h2 => by simp only [decide_eq_true_eq] at *; omega) (fun a b => by simp only [Bool.or_eq_true, decide_eq_true_eq]; omega) ss
  have h2 : (ss.mergeSort (fun x y => decide (x ≤ y))).Nodup := (List.mergeSort_perm ss _).nodup_iff.2 hnd
  refine (h1.and h2).imp fun {a b} h => ?_
  have := h.1
  simp only [decide_eq_true_eq] at this
  have := h.2
  omega

theorem sorted_at {w : World} {b n : Nat} {m : Int → Option Value} (h : MapI w b n m) (hn : n ≤ 100000) :
    Calls Tryz.prog 59 #[.func (.func 79) #[] #[.pointer (some ⟨w.heap.size, 0, none⟩)]] (w.alloc (.cells #[.map (some b)] 67)) fun e w' =>
      ∃ v ks, e = .returned v ∧ Rising m ks ∧ ks.length ≤ n ∧ w'.ownsRow w.heap.size 3 1 v ks.length (ks.map encZ) ∧ Below w.heap.size w w' := by
  obtain ⟨D0, hown, hnd, hmem⟩ := h.keys
  have hbl := hown.lt
  have hsz := hown.size_le
  have hseq : SeqGives Fence.wide 2 Tryz.prog 79 #[.pointer (some ⟨w.heap.size, 0, none⟩)] encZ (fun ss => ss.Perm (intKeys D0)) (Maps.size D0) (w.alloc (.cells #[.map (some b)] 67)) :=
    AnyZI.keys_gives (ρ := keysA_ren) { keysA with } Fence.wide _ trivial rfl (by omega) w.heap.size b n D0 _ (by simp) (by simp) (by
      obtain ⟨es, clock, hb, Ft, hs, hD⟩ := hown
      exact ⟨es, clock, (Below.heap_alloc _ _ b hbl).trans hb, Ft, hs, hD⟩)
  have cS := AnyZI.sorted_in sortedA Fence.wide 5 trivial trivial trivial trivial rfl (by omega) (sortsA _) (enters_of Tryz.func78 (by kernel_rfl) rfl) 79 #[.pointer (some ⟨w.heap.size, 0, none⟩)] trivial (enters_of Tryz.func79 (by kernel_rfl) rfl) _ _ (by unfold maxLen; omega) (by omega) _ hseq
  change CallsIn _ _ Tryz.prog 59 _ _ _ at cS
  refine ((callsIn_wide).1 cS).mono ?_
  rintro e w' ⟨v, ss, rfl, hS, hrow, hnil, hb⟩
  have hl : (ss.mergeSort (fun x y => decide (x ≤ y))).length = ss.length := List.length_mergeSort ss
  have hl2 : ss.length = Maps.size D0 := by
    rw [hS.length_eq]
    obtain ⟨es, rfl⟩ := hown.isMap
    simp [intKeys, size_eq]
  refine ⟨v, _, rfl, rising_of (hS.nodup_iff.2 hnd) (fun x => by rw [hS.mem_iff]; exact hmem x), by rw [hl, hl2]; exact hsz, ?_, ((Below.refl _ w).alloc (Nat.le_refl _) _).trans (hb.mono (by simp))⟩
  rw [hl]
  exact owns_le hrow (by simp)
end Go.Proofs.YtdkaacjeogifdaaGreat.H

/-
  rising: the images by rising blocks, each datum a copy.
-/
namespace Go.Proofs.YtdkaacjeogifdaaGreat.H
open Go.RowKit Go.Maps
open Go.Proofs.YtdkaacjeogifdaaGreat.Rc (GG GetJ imgC madeL RowB owns_below owns_shape owns_block Box)

theorem owns_cells {w : World} {B e size n m : Nat} {a : Option Addr} {c : Nat} {xs : List Value} (ho : w.ownsRow B e size (.slice a n c) m xs) (h0 : 0 < m) :
    ∃ g, a = some ⟨g, 0, none⟩ ∧ B ≤ g ∧ (∃ cur, Box w g cur e) ∧ ∀ j, j < m * size → w.cell? ⟨g, j, none⟩ = xs[j]? := by
  rcases ho.2 with ⟨h1, h2⟩ | ⟨g, cap, cur, h1, hBg, hg2, hnc, hcm, hcs, ht⟩
  · omega
  · injection h1 with h1
    subst h1
    have hB : Box w g cur e := hg2
    refine ⟨g, rfl, hBg, ⟨cur, hB⟩, fun j hj => ?_⟩
    rw [hB.cell j, ← ht, List.getElem?_take, if_pos hj]
    simp

/-- what m holds: images of whole blocks -/
def Whole (w : World) (m : Int → Option Value) (dat : Int → List UInt8) : Prop := ∀ k, (m k).isSome = true → ∃ g o c, m k = some (.agg #[.int .i64 k, .slice (some ⟨g, o, none⟩) 4096 c]) ∧ Rc.Rd w (some ⟨g, o, none⟩) (dat k) ∧ (dat k).length = 4096

set_option maxRecDepth 100000 in
set_option maxHeartbeats 4000000 in
theorem rising_at {w : World} {b n : Nat} {m : Int → Option Value} {dat : Int → List UInt8} (h : MapI w b n m) (hn : n ≤ 1000) (hw : Whole w m dat) :
    Calls Tryz.prog 31 #[.map (some b)] w fun r w' => ∃ a' c' ks qs, r = .returned (.slice a' (List.length ks) c') ∧ Rising m ks ∧ ks.length ≤ n ∧ w'.ownsRow w.heap.size 57 2 (.slice a' ks.length c') ks.length (imgC qs) ∧ GetJ w.heap.size w' qs ∧ qs.map (fun p => (p.b, p.xs)) = ks.map (fun k => (k, dat k)) ∧ Below w.heap.size w w' := by
  obtain ⟨i0, hi, hz0, hz1, hz2⟩ := info_parts Rc.info38
  have cK := keys_at (some b) w
  have cS := sorted_at h (by omega : n ≤ 100000)
  have HW : Hid (Whole w m dat) := hw
  have HM : Hid (MapI w b n m) := h
  clear h hw
  go_enter Tryz.func31, Tryz.ntmps31
  go_wp2_with fail
  refine Calls.mono cK ?_
  rintro r u1 ⟨rfl, rfl⟩
  clear cK
  go_wp2_with fail
  refine Calls.mono cS ?_
  rintro r u2 ⟨v, ks, rfl, hR, hkn, hrow, b2⟩
  have HR : Hid (Rising m ks) := hR
  have HRow : Hid (u2.ownsRow w.heap.size 3 1 v ks.length (ks.map encZ)) := hrow
  obtain ⟨ak, ck, rfl⟩ := owns_shape hrow
  obtain ⟨N, hN⟩ : ∃ N, N = ks.length := ⟨_, rfl⟩
  have HN : Hid (N = ks.length) := hN
  rw [← hN] at HRow hkn ⊢
  clear hN hrow hR cS
  go_wp2_with fail
  go_loopw [3, 10] (fun v i u => ∃ (k : Nat) (qs : List GG), k ≤ N ∧ i = .int .i64 (k : Int) ∧ u.ownsRow u2.heap.size 57 2 v k (imgC qs) ∧ GetJ w.heap.size u qs ∧ qs.map (fun p => (p.b, p.xs)) = (ks.take k).map (fun k => (k, dat k)) ∧ Below u2.heap.size u2 u) (fun _ i _ => N - (intOf i).toNat)
  case atStart => exact ⟨0, [], Nat.zero_le _, rfl, World.ownsRow_nil _ _ _ _, ⟨fun p hp => (by cases hp), List.nodup_nil⟩, by simp, Below.refl _ _⟩
  case round =>
    obtain ⟨k, qs, hk, rfl, hown, hJ, hps, B⟩ := hrel
    have HPS : Hid (qs.map (fun p => (p.b, p.xs)) = (ks.take k).map (fun k => (k, dat k))) := hps
    have HJ : Hid (GetJ w.heap.size wr qs) := hJ
    have HOWN : Hid (wr.ownsRow u2.heap.size 57 2 u3 k (imgC qs)) := hown
    clear hps hJ
    obtain ⟨av, cv, rfl⟩ := owns_shape hown
    by_cases hlt : k < N
    · have hki : (k : Int) < (N : Int) := by omega
      have hkl : k < ks.length := by rw [← HN.out]; exact hlt
      obtain ⟨kg, rfl, _, _, hc⟩ := owns_cells HRow.out (by omega)
      obtain ⟨K, hK⟩ : ∃ K, K = ks[k] := ⟨_, rfl⟩
      have ck0 : u2.cell? ⟨kg, k, none⟩ = some (.int .i64 K) := by
        rw [hc k (by omega), hK]
        simp [hkl]
      have ckw : wr.cell? ⟨kg, k, none⟩ = some (.int .i64 K) := (B.cell (p := ⟨kg, k, none⟩) (block_lt_of_cell ck0)).trans ck0
      obtain ⟨g, o, c, em, rd, hl⟩ := HW.out K ((HR.out.2 K).1 (by rw [hK]; exact List.getElem_mem hkl))
      have Bw : Below w.heap.size w wr := b2.trans (B.mono b2.size)
      have lk := (HM.out.below Bw).look K _ em
      have cC := Rc.clone_at c 4096 g o (dat K) wr hl (by decide) (by decide) (rd.below Bw (Nat.le_refl _))
      have hstep : Hid ((ks.take (k + 1)).map (fun k => (k, dat k)) = (ks.take k).map (fun k => (k, dat k)) ++ [(K, dat K)]) := by
        show _ = _
        rw [List.take_succ_eq_append_getElem hkl, List.map_append, hK]; rfl
      have hml : Hid ((dat K).length = 4096) := hl
      generalize dat K = ml at cC hstep hml
      clear hown hc ck0 hK rd hl em
      have fd : (Instr.field 57 (.agg #[.int .i64 K, .slice (some ⟨g, o, none⟩) 4096 c]) 1).run Tryz.prog wr = .ok (.slice (some ⟨g, o, none⟩) 4096 c) wr := by kernel_rfl
      go_wp2_with fail
      refine Calls.mono cC ?_
      rintro r W ⟨hg, cg, rfl, hgl, om, bW⟩
      have z0 : w.heap.size ≤ wr.heap.size := Bw.size
      have J2 : Hid (GetJ w.heap.size W (qs ++ [⟨K, ml, hg, cg⟩])) := HJ.out.snoc bW ⟨K, ml, hg, cg⟩ om hgl hml.out z0
      have O2 : Hid (W.ownsRow u2.heap.size 57 2 (.slice av k cv) k (imgC qs)) := owns_below HOWN.out bW
      have B1 := B.trans (bW.mono B.size)
      have own1 := (O2.out).alloc (.cells #[.int .i64 K, .slice (some ⟨hg, 0, none⟩) 4096 cg] 57)
      have z1 := B1.size
      have z2 := b2.size
      clear om bW cC B fd lk ckw
      go_wp2_with (at_builtin; refine wpList_append_own _ rfl _ _ 26 rfl u2.heap.size 57 i0 _ 2 32 Tryz.underlying26 hi hz0 hz1 hz2 rfl (by decide) _ k _ rfl own1 ⟨W.heap.size, 0, none⟩ 1 1 [.int .i64 K, .slice (some ⟨hg, 0, none⟩) 4096 cg] rfl rfl ?c1 ?c2 ?c3 ?c4 ?c5 ?_)
      case c1 => exact World.news_of_block (cs := #[.int .i64 K, .slice (some ⟨hg, 0, none⟩) 4096 cg]) (t := 57) (fr := (0, 0)) (heap_alloc_new W _)
      case c2 => intro u hu; simp at hu; rcases hu with rfl | rfl <;> rfl
      case c3 => unfold maxLen; omega
      case c4 => omega
      case c5 => simp; omega
      · intro v' w1 hown1 hgrow _
        have al := (Below.refl _ W).alloc (Nat.le_refl _) (.cells #[.int .i64 K, .slice (some ⟨hg, 0, none⟩) 4096 cg] 57)
        have B2 : Below u2.heap.size u2 w1 := (B1.alloc z1 _).grown hgrow (by simp; omega) (fun j e => (owns_block O2.out j e).1)
        have J3 : GetJ w.heap.size w1 (qs ++ [⟨K, ml, hg, cg⟩]) := (J2.out.below al).grown own1 (by decide) hgrow
        clear hgrow own1 al
        go_wp2_with fail
        go_roundw
        case rel => exact ⟨k + 1, _, by omega, by push_cast; rfl, by simpa [imgC] using hown1, J3, by rw [List.map_append, HPS.out, hstep.out]; rfl, B2⟩
        case measure => simp [intOf]; omega
    · have hke : k = N := by omega
      have hke2 : ks.take k = ks := by rw [hke, HN.out, List.take_length]
      rw [hke2] at HPS
      rw [hke] at HOWN ⊢
      clear hke hlt hk hown hke2
      go_wp2_with fail
      go_ret
      refine ⟨av, cv, ks, qs, by rw [HN.out]; rfl, HR.out, by rw [← HN.out]; exact hkn, ?_, HJ.out, HPS.out, b2.trans (B.mono b2.size)⟩
      rw [← HN.out]
      exact owns_le HOWN.out b2.size
end Go.Proofs.YtdkaacjeogifdaaGreat.H

/-
  Blocks of one byte, blocks of two; what a quiet disk does. No program is named here.
-/
namespace Go.Proofs.YtdkaacjeogifdaaGreat.Dk

/-- the first k bytes are c, the others noughts -/
def fillK (c : UInt8) (k : Nat) : List UInt8 := (List.range 4096).map fun i => if i < k then c else 0
def fill (c : UInt8) : List UInt8 := fillK c 4096
theorem fillK_length (c : UInt8) (k : Nat) : (fillK c k).length = 4096 := by simp [fillK]
theorem fill_length (c : UInt8) : (fill c).length = 4096 := fillK_length c 4096
theorem fillK_get (c : UInt8) (k i : Nat) : (fillK c k)[i]? = if i < 4096 then some (if i < k then c else 0) else none := by
  unfold fillK
  rw [List.getElem?_map]
  by_cases h : i < 4096
  · rw [List.getElem?_range h, if_pos h]; rfl
  · rw [List.getElem?_eq_none (by simp; omega), if_neg h]; rfl
theorem fillK_zero (c : UInt8) : fillK c 0 = List.replicate 4096 0 := by
  apply List.ext_getElem?
  intro i
  rw [fillK_get, List.getElem?_replicate]
  simp
theorem fillK_set (c : UInt8) (k : Nat) (h : k < 4096) : (fillK c k).set k c = fillK c (k + 1) := by
  apply List.ext_getElem?
  intro i
  rw [List.getElem?_set, fillK_get, fillK_get, fillK_length]
  by_cases e : k = i
  · subst e
    rw [if_pos rfl, if_pos h, if_pos h, if_pos (by omega)]
  · rw [if_neg e]
    by_cases h1 : i < k
    · rw [if_pos h1, if_pos (show i < k + 1 by omega)]
    · rw [if_neg h1, if_neg (show ¬ i < k + 1 by omega)]
theorem fill_get (c : UInt8) (i : Nat) (h : i < 4096) : (fill c)[i]? = some c := by
  unfold fill
  rw [fillK_get, if_pos h, if_pos h]

/-- .. of the first k bytes those of b's sectors are b -/
def mixK (a b : UInt8) (m k : Nat) : List UInt8 := (List.range 4096).map fun i => if i < k ∧ bit m (i / 512) = true then b else a
theorem mixK_length (a b : UInt8) (m k : Nat) : (mixK a b m k).length = 4096 := by simp [mixK]
theorem mixK_get (a b : UInt8) (m k i : Nat) : (mixK a b m k)[i]? = if i < 4096 then some (if i < k ∧ bit m (i / 512) = true then b else a) else none := by
  unfold mixK
  rw [List.getElem?_map]
  by_cases h : i < 4096
  · rw [List.getElem?_range h, if_pos h]; rfl
  · rw [List.getElem?_eq_none (by simp; omega), if_neg h]; rfl
theorem mixK_zero (a b : UInt8) (m : Nat) : mixK a b m 0 = fill a := by
  apply List.ext_getElem?
  intro i
  rw [mixK_get]
  by_cases h : i < 4096
  · rw [if_pos h, fill_get a i h, if_neg (by rintro ⟨h1, _⟩; omega)]
  · rw [if_neg h, List.getElem?_eq_none (by rw [fill_length]; omega)]
theorem mixK_set (a b : UInt8) (m k : Nat) (h : k < 4096) (hb : bit m (k / 512) = true) : (mixK a b m k).set k b = mixK a b m (k + 1) := by
  apply List.ext_getElem?
  intro i
  rw [List.getElem?_set, mixK_get, mixK_get, mixK_length]
  by_cases e : k = i
  · subst e
    rw [if_pos rfl, if_pos h, if_pos h, if_pos ⟨by omega, hb⟩]
  · rw [if_neg e]
    by_cases h1 : i < k ∧ bit m (i / 512) = true
    · have h2 : i < k + 1 ∧ bit m (i / 512) = true := ⟨by omega, h1.2⟩
      simp only [if_pos h1, if_pos h2]
    · have h2 : ¬ (i < k + 1 ∧ bit m (i / 512) = true) := fun h2 => h1 ⟨by have := h2.1; omega, h2.2⟩
      simp only [if_neg h1, if_neg h2]
theorem mixK_skip (a b : UInt8) (m k : Nat) (hb : bit m (k / 512) = false) : mixK a b m (k + 1) = mixK a b m k := by
  apply List.ext_getElem?
  intro i
  rw [mixK_get, mixK_get]
  by_cases h1 : i < k ∧ bit m (i / 512) = true
  · have h2 : i < k + 1 ∧ bit m (i / 512) = true := ⟨by omega, h1.2⟩
    simp only [if_pos h1, if_pos h2]
  · have h2 : ¬ (i < k + 1 ∧ bit m (i / 512) = true) := fun h2 => by
      by_cases e : i = k
      · subst e; rw [hb] at h2; exact absurd h2.2 (by simp)
      · exact h1 ⟨by have := h2.1; omega, h2.2⟩
    simp only [if_neg h1, if_neg h2]

theorem blk_carry_all (d : List UInt8) (b : Nat) (data : List UInt8) (hb : b * 4096 + 4096 ≤ d.length) (hd : data.length = 4096) : blk (carry d b data 255) b = data := by
  apply List.ext_getElem?
  intro i
  rw [blk_get]
  by_cases h : i < 4096
  · have e : b * 4096 + i - b * 4096 = i := by omega
    have hq : i / 512 < 8 := by clear hb hd e; omega
    rw [if_pos h, carry_get d b data 255 hb hd, e, if_pos ⟨Nat.le_add_right _ _, Nat.add_lt_add_left h _, bit_all _ hq⟩]
  · rw [if_neg h, List.getElem?_eq_none (by omega)]
theorem blk_carry_other (d : List UInt8) (b n : Nat) (data : List UInt8) (m : Nat) (hb : b * 4096 + 4096 ≤ d.length) (hd : data.length = 4096) (hn : n ≠ b) : blk (carry d b data m) n = blk d n := by
  apply List.ext_getElem?
  intro i
  rw [blk_get, blk_get]
  by_cases h : i < 4096
  · rw [if_pos h, if_pos h, carry_get d b data m hb hd, if_neg (fun h1 => by have h2 := h1.1; have h3 := h1.2.1; omega)]
  · rw [if_neg h, if_neg h]
theorem blk_carry_mix (d : List UInt8) (b : Nat) (x y : UInt8) (m : Nat) (hb : b * 4096 + 4096 ≤ d.length) (hd : blk d b = fill x) : blk (carry d b (fill y) m) b = mixK x y m 4096 := by
  apply List.ext_getElem?
  intro i
  rw [blk_get, mixK_get]
  by_cases h : i < 4096
  · have e : b * 4096 + i - b * 4096 = i := by omega
    have e2 : d[b * 4096 + i]? = some x := by
      have := blk_get d b i
      rw [hd, if_pos h, fill_get x i h] at this
      exact this.symm
    rw [if_pos h, if_pos h, carry_get d b (fill y) m hb (fill_length y), e]
    by_cases hbit : bit m (i / 512) = true
    · rw [if_pos ⟨Nat.le_add_right _ _, Nat.add_lt_add_left h _, hbit⟩, if_pos ⟨h, hbit⟩, fill_get y i h]
    · rw [if_neg (fun q => hbit q.2.2), if_neg (fun q => hbit q.2), e2]
  · rw [if_neg h, if_neg h]
theorem blk_nought (n b : Nat) (h : b * 4096 + 4096 ≤ n) : blk (List.replicate n 0) b = fill 0 := by
  apply List.ext_getElem?
  intro i
  rw [blk_get]
  by_cases hi : i < 4096
  · rw [if_pos hi, fill_get 0 i hi, List.getElem?_replicate, if_pos (by omega)]
  · rw [if_neg hi, List.getElem?_eq_none (by rw [fill_length]; omega)]

/-- a disk with its power on, and nothing armed -/
def DS.quiet (D : DS) : Prop := D.gone = false ∧ D.arm = ⟨false, 0⟩ ∧ D.fail = ⟨false, 0⟩
theorem DS.quiet.operE {D : DS} (h : D.quiet) : D.operE = 0 := by
  obtain ⟨h1, h2, h3⟩ := h
  simp [DS.operE, h1, h2, h3, Fuse.stops]
theorem DS.quiet.oper {D : DS} (h : D.quiet) : D.oper = D := by
  obtain ⟨nb, dur, uf, n, gone, arm, fail⟩ := D
  obtain ⟨h1, h2, h3⟩ := h
  dsimp only at h1 h2 h3
  subst h1 h2 h3
  rfl
theorem DS.quiet.write {D : DS} (h : D.quiet) (n : Nat) (b : List UInt8) (hn : n < D.nb) (hb : b.length = 4096) : D.write (n : Int) b = { D with uf := D.uf ++ [(n, b)], n := D.n + 1 } := by
  have hh : D.has (n : Int) = true := by simp [DS.has]; omega
  unfold DS.write
  rw [hh, h.operE, h.oper, hb]
  simp
theorem DS.quiet.writeE {D : DS} (h : D.quiet) (n : Nat) (b : List UInt8) (hn : n < D.nb) (hb : b.length = 4096) : D.writeE (n : Int) b = 0 := by
  have hh : D.has (n : Int) = true := by simp [DS.has]; omega
  unfold DS.writeE
  rw [hh, h.operE, hb]
  simp
theorem DS.quiet.flush {D : DS} (h : D.quiet) : D.flush = { D with dur := D.image, uf := [] } := by
  unfold DS.flush
  rw [if_pos h.operE, h.oper]
theorem DS.new_quiet (nb : Nat) (d : List UInt8) : (DS.new nb d).quiet := ⟨rfl, rfl, rfl⟩
theorem DS.crash_quiet (D : DS) (ks : List Bool) (t : Int) (m : Nat) : (D.crash ks t m).quiet := ⟨rfl, rfl, rfl⟩
end Go.Proofs.YtdkaacjeogifdaaGreat.Dk

/-
  Plain lists: images are laid, a superblock behind them; what any crash leaves. No program is named here.
-/
namespace Go.Proofs.YtdkaacjeogifdaaGreat.H
open Go.Proofs.YtdkaacjeogifdaaGreat.Dk

/-- images are written one behind the other, then flushed; the first error ends it -/
def layD : List (Int × List UInt8) → DS → DS × Nat
  | [], D => (D.flush, D.operE)
  | p :: r, D => if D.writeE p.1 p.2 = 0 then layD r (D.write p.1 p.2) else (D.write p.1 p.2, D.writeE p.1 p.2)
def doD (ims : List (Int × List UInt8)) (slot : Int) (sb : List UInt8) (D : DS) : DS × Nat :=
  if (layD ims D).2 = 0 then layD [(slot, sb)] (layD ims D).1 else layD ims D

theorem oper_keeps (D : DS) : D.oper.nb = D.nb ∧ D.oper.dur = D.dur ∧ D.oper.uf = D.uf ∧ D.oper.n = D.n := ⟨D.oper_nb, D.oper_dur, D.oper_uf, D.oper_n⟩
theorem write_le (D : DS) (n : Int) (b : List UInt8) : (D.write n b).nb = D.nb ∧ (D.write n b).uf.length ≤ D.uf.length + 1 ∧ (D.write n b).n ≤ D.n + 1 := by
  obtain ⟨h1, h2, h3, h4⟩ := oper_keeps D
  unfold DS.write
  split
  · split
    · exact ⟨h1, by simp, Nat.le_refl _⟩
    · exact ⟨h1, by rw [h3]; omega, by rw [h4]; omega⟩
  · exact ⟨rfl, by omega, by omega⟩
theorem flush_le (D : DS) : D.flush.nb = D.nb ∧ D.flush.uf.length ≤ D.uf.length ∧ D.flush.n = D.n := by
  obtain ⟨h1, h2, h3, h4⟩ := oper_keeps D
  unfold DS.flush
  split
  · exact ⟨h1, by simp, h4⟩
  · exact ⟨h1, by rw [h3]; omega, h4⟩
theorem layD_le : ∀ (ims : List (Int × List UInt8)) (D : DS), (layD ims D).1.nb = D.nb ∧ (layD ims D).1.uf.length ≤ D.uf.length + ims.length ∧ (layD ims D).1.n ≤ D.n + ims.length
  | [], D => by
    obtain ⟨h1, h2, h3⟩ := flush_le D
    exact ⟨h1, by simpa [layD] using h2, by show D.flush.n ≤ _; rw [h3]; simp⟩
  | p :: r, D => by
    obtain ⟨h1, h2, h3⟩ := write_le D p.1 p.2
    unfold layD
    split
    · obtain ⟨i1, i2, i3⟩ := layD_le r (D.write p.1 p.2)
      exact ⟨i1.trans h1, by simp; omega, by simp; omega⟩
    · exact ⟨h1, by simp; omega, by simp; omega⟩
theorem doD_le (ims : List (Int × List UInt8)) (slot : Int) (sb : List UInt8) (D : DS) : (doD ims slot sb D).1.nb = D.nb ∧ (doD ims slot sb D).1.uf.length ≤ D.uf.length + (ims.length + 1) ∧ (doD ims slot sb D).1.n ≤ D.n + (ims.length + 1) := by
  obtain ⟨h1, h2, h3⟩ := layD_le ims D
  unfold doD
  split
  · obtain ⟨i1, i2, i3⟩ := layD_le [(slot, sb)] (layD ims D).1
    simp only [List.length_cons, List.length_nil] at i2 i3
    exact ⟨i1.trans h1, by omega, by omega⟩
  · exact ⟨h1, by omega, by omega⟩

/-- What may be written to a disk of 64 blocks, and what its bytes then are: a property of bytes that each write of W keeps, whole or torn, stays. -/
structure Stays (Q : List UInt8 → Prop) (W : Nat × List UInt8 → Prop) : Prop where
  keep : ∀ d b x m, Q d → W (b, x) → Q (carry d b x m)
def Held (Q : List UInt8 → Prop) (W : Nat × List UInt8 → Prop) (D : DS) : Prop := Q D.dur ∧ ∀ p ∈ D.uf, W p
theorem Stays.carryTo {Q : List UInt8 → Prop} {W : Nat × List UInt8 → Prop} (s : Stays Q W) {uf : List (Nat × List UInt8)} {d : List UInt8} (hq : Q d) (hw : ∀ p ∈ uf, W p) : ∀ k, Q (carryTo uf d k)
  | 0 => hq
  | k + 1 => by
    have ih := s.carryTo hq hw k
    unfold Dk.carryTo
    cases e : uf[k]? with
    | none => exact ih
    | some w => exact s.keep _ _ _ _ ih (hw _ (List.mem_of_getElem? e))
theorem Stays.crashTo {Q : List UInt8 → Prop} {W : Nat × List UInt8 → Prop} (s : Stays Q W) {uf : List (Nat × List UInt8)} {d : List UInt8} (hq : Q d) (hw : ∀ p ∈ uf, W p) (ks : List Bool) (t : Int) (m : Nat) : ∀ k, Q (crashTo ks t m uf d k)
  | 0 => hq
  | k + 1 => by
    have ih := s.crashTo hq hw ks t m k
    unfold Dk.crashTo
    cases e : uf[k]? with
    | none => exact ih
    | some w =>
      have hm := hw _ (List.mem_of_getElem? e)
      show Q (if _ then carry _ _ _ _ else if _ then carry _ _ _ _ else _)
      split
      · exact s.keep _ _ _ _ ih hm
      · split
        · exact s.keep _ _ _ _ ih hm
        · exact ih
theorem Stays.crash {Q : List UInt8 → Prop} {W : Nat × List UInt8 → Prop} (s : Stays Q W) {D : DS} (h : Held Q W D) (ks : List Bool) (t : Int) (m : Nat) : Held Q W (D.crash ks t m) :=
  ⟨s.crashTo h.1 h.2 ks t m _, fun p hp => by simp [DS.crash] at hp⟩
theorem Stays.flush {Q : List UInt8 → Prop} {W : Nat × List UInt8 → Prop} (s : Stays Q W) {D : DS} (h : Held Q W D) : Held Q W D.flush := by
  obtain ⟨h1, h2, h3, h4⟩ := oper_keeps D
  unfold DS.flush
  split
  · exact ⟨s.carryTo h.1 h.2 _, fun p hp => by simp at hp⟩
  · exact ⟨by rw [h2]; exact h.1, by rw [h3]; exact h.2⟩
theorem Held.write {Q : List UInt8 → Prop} {W : Nat × List UInt8 → Prop} {D : DS} (h : Held Q W D) (n : Int) (b : List UInt8) (hw : W (n.toNat, b)) : Held Q W (D.write n b) := by
  obtain ⟨h1, h2, h3, h4⟩ := oper_keeps D
  unfold DS.write
  split
  · split
    · refine ⟨by show Q D.oper.dur; rw [h2]; exact h.1, fun p hp => ?_⟩
      rcases List.mem_append.1 hp with hp | hp
      · exact h.2 p hp
      · simp at hp; rw [hp]; exact hw
    · exact ⟨by rw [h2]; exact h.1, by rw [h3]; exact h.2⟩
  · exact h
theorem Stays.lay {Q : List UInt8 → Prop} {W : Nat × List UInt8 → Prop} (s : Stays Q W) : ∀ (ims : List (Int × List UInt8)) {D : DS}, Held Q W D → (∀ p ∈ ims, W (p.1.toNat, p.2)) → Held Q W (layD ims D).1
  | [], D, h, _ => s.flush h
  | p :: r, D, h, hw => by
    have h1 := h.write p.1 p.2 (hw p (List.mem_cons_self ..))
    unfold layD
    split
    · exact s.lay r h1 (fun q hq => hw q (List.mem_cons_of_mem _ hq))
    · exact h1
theorem Stays.do {Q : List UInt8 → Prop} {W : Nat × List UInt8 → Prop} (s : Stays Q W) (ims : List (Int × List UInt8)) (slot : Int) (sb : List UInt8) {D : DS} (h : Held Q W D) (hw : ∀ p ∈ ims, W (p.1.toNat, p.2)) (hs : W (slot.toNat, sb)) : Held Q W (doD ims slot sb D).1 := by
  have h1 := s.lay ims h hw
  unfold doD
  split
  · exact s.lay _ h1 (fun q hq => by simp at hq; rw [hq]; exact hs)
  · exact h1

/-- a lay without an error: all is durable -/
theorem layD_ok : ∀ (ims : List (Int × List UInt8)) (D : DS), (layD ims D).2 = 0 → (layD ims D).1.uf = [] ∧ (layD ims D).1.dur = (D.uf ++ ims.map (fun p => (p.1.toNat, p.2))).foldl (fun d w => carry d w.1 w.2 255) D.dur
  | [], D, h => by
    have h : D.operE = 0 := h
    show D.flush.uf = [] ∧ D.flush.dur = _
    rw [DS.flush, if_pos h]
    refine ⟨rfl, ?_⟩
    show carryTo D.uf D.dur D.uf.length = _
    rw [List.map_nil, List.append_nil]
    have : ∀ k, k ≤ D.uf.length → carryTo D.uf D.dur k = (D.uf.take k).foldl (fun d w => carry d w.1 w.2 255) D.dur := by
      intro k
      induction k with
      | zero => intro _; rfl
      | succ k ih =>
        intro hk
        rw [carryTo_succ _ _ _ (by omega), ih (by omega), List.take_succ_eq_append_getElem (by omega), List.foldl_append]
        rfl
    rw [this _ (Nat.le_refl _), List.take_length]
  | p :: r, D, h => by
    unfold layD at h ⊢
    split at h
    · rename_i he
      rw [if_pos he]
      obtain ⟨i1, i2⟩ := layD_ok r _ h
      refine ⟨i1, ?_⟩
      rw [i2]
      have hc : (D.has p.1 && decide (p.2.length = 4096)) = true ∧ D.operE = 0 := by
        unfold DS.writeE at he
        split at he
        · split at he
          · rename_i a b
            exact ⟨by rw [a, decide_eq_true b]; rfl, he⟩
          · omega
        · omega
      have e1 : (D.write p.1 p.2).uf = D.uf ++ [(p.1.toNat, p.2)] := by rw [DS.write, if_pos hc.1, if_pos hc.2]
      have e2 : (D.write p.1 p.2).dur = D.dur := by rw [DS.write, if_pos hc.1, if_pos hc.2]; exact D.oper_dur
      rw [e1, e2, List.map_cons, List.append_assoc]
      rfl
    · rename_i he
      exact absurd h he
theorem layD_quiet : ∀ (ims : List (Int × List UInt8)) (D : DS), D.quiet → (∀ p ∈ ims, D.has p.1 = true ∧ p.2.length = 4096) → (layD ims D).2 = 0 ∧ (layD ims D).1.quiet ∧ (layD ims D).1.nb = D.nb ∧ (layD ims D).1.n = D.n + ims.length
  | [], D, h, _ => by
    refine ⟨h.operE, ?_⟩
    show D.flush.quiet ∧ D.flush.nb = _ ∧ D.flush.n = _
    rw [h.flush]
    exact ⟨h, rfl, rfl⟩
  | p :: r, D, h, hp => by
    obtain ⟨h1, h2⟩ := hp p (List.mem_cons_self ..)
    have e0 : D.writeE p.1 p.2 = 0 := by unfold DS.writeE; rw [if_pos h1, if_pos h2]; exact h.operE
    have e1 : D.write p.1 p.2 = { D with uf := D.uf ++ [(p.1.toNat, p.2)], n := D.n + 1 } := by
      rw [DS.write, h1, decide_eq_true h2, h.operE, h.oper]; rfl
    unfold layD
    rw [if_pos e0]
    obtain ⟨i1, i2, i3, i4⟩ := layD_quiet r (D.write p.1 p.2) (by rw [e1]; exact h) (fun q hq => by rw [e1]; exact hp q (List.mem_cons_of_mem _ hq))
    refine ⟨i1, i2, by rw [i3, e1], ?_⟩
    rw [i4, e1, List.length_cons]
    show D.n + 1 + r.length = _
    omega
theorem doD_quiet (ims : List (Int × List UInt8)) (slot : Int) (sb : List UInt8) (D : DS) (h : D.quiet) (hi : ∀ p ∈ ims, D.has p.1 = true ∧ p.2.length = 4096) (hs : D.has slot = true ∧ sb.length = 4096) : (doD ims slot sb D).2 = 0 ∧ (doD ims slot sb D).1.quiet ∧ (doD ims slot sb D).1.nb = D.nb ∧ (doD ims slot sb D).1.n = D.n + ims.length + 1 := by
  obtain ⟨i1, i2, i3, i4⟩ := layD_quiet ims D h hi
  have := layD_quiet [(slot, sb)] (layD ims D).1 i2 (fun p hp => by simp at hp; subst hp; unfold DS.has; rw [i3]; exact hs)
  unfold doD
  rw [if_pos i1]
  obtain ⟨j1, j2, j3, j4⟩ := this
  exact ⟨j1, j2, j3.trans i3, by rw [j4, i4]; rfl⟩
theorem doD_ok (ims : List (Int × List UInt8)) (slot : Int) (sb : List UInt8) (D : DS) (h : (doD ims slot sb D).2 = 0) : (doD ims slot sb D).1.uf = [] ∧ (doD ims slot sb D).1.dur = carry ((D.uf ++ ims.map (fun p => (p.1.toNat, p.2))).foldl (fun d w => carry d w.1 w.2 255) D.dur) slot.toNat sb 255 := by
  unfold doD at h ⊢
  split at h
  · rename_i h1
    rw [if_pos h1]
    obtain ⟨i1, i2⟩ := layD_ok ims D h1
    obtain ⟨j1, j2⟩ := layD_ok _ _ h
    refine ⟨j1, ?_⟩
    rw [j2, i1, i2]
    rfl
  · rename_i h1
    exact absurd h h1

/-- blocks of what is laid in order -/
theorem fold_len (l : List (Nat × List UInt8)) (d : List UInt8) (hd : d.length = 64 * 4096) (hl : ∀ p ∈ l, p.1 < 64 ∧ p.2.length = 4096) : (l.foldl (fun d w => carry d w.1 w.2 255) d).length = 64 * 4096 := by
  induction l generalizing d with
  | nil => exact hd
  | cons p r ih =>
    obtain ⟨h1, h2⟩ := hl p (List.mem_cons_self ..)
    exact ih _ (by rw [carry_length _ _ _ _ (by rw [hd]; omega) h2]; exact hd) (fun q hq => hl q (List.mem_cons_of_mem _ hq))
theorem fold_other (l : List (Nat × List UInt8)) (d : List UInt8) (n : Nat) (hd : d.length = 64 * 4096) (hl : ∀ p ∈ l, p.1 < 64 ∧ p.2.length = 4096) (hn : ∀ p ∈ l, p.1 ≠ n) : blk (l.foldl (fun d w => carry d w.1 w.2 255) d) n = blk d n := by
  induction l generalizing d with
  | nil => rfl
  | cons p r ih =>
    obtain ⟨h1, h2⟩ := hl p (List.mem_cons_self ..)
    have hf : p.1 * 4096 + 4096 ≤ d.length := by rw [hd]; omega
    rw [List.foldl_cons, ih _ (by rw [carry_length _ _ _ _ hf h2]; exact hd) (fun q hq => hl q (List.mem_cons_of_mem _ hq)) (fun q hq => hn q (List.mem_cons_of_mem _ hq))]
    exact blk_carry_other _ _ _ _ _ hf h2 (fun e => hn p (List.mem_cons_self ..) e.symm)
theorem fold_one (l : List (Nat × List UInt8)) (d : List UInt8) (p : Nat × List UInt8) (hp : p ∈ l) (hd : d.length = 64 * 4096) (hl : ∀ p ∈ l, p.1 < 64 ∧ p.2.length = 4096) (hn : (l.map (·.1)).Nodup) : blk (l.foldl (fun d w => carry d w.1 w.2 255) d) p.1 = p.2 := by
  induction l generalizing d with
  | nil => cases hp
  | cons q r ih =>
    obtain ⟨h1, h2⟩ := hl q (List.mem_cons_self ..)
    have hf : q.1 * 4096 + 4096 ≤ d.length := by rw [hd]; omega
    have hd' : (carry d q.1 q.2 255).length = 64 * 4096 := by rw [carry_length _ _ _ _ hf h2]; exact hd
    rw [List.map_cons, List.nodup_cons] at hn
    rw [List.foldl_cons]
    rcases List.mem_cons.1 hp with rfl | hp
    · rw [fold_other r _ _ hd' (fun q hq => hl q (List.mem_cons_of_mem _ hq)) (fun q hq e => hn.1 (List.mem_map.2 ⟨q, hq, e⟩))]
      exact blk_carry_all _ _ _ hf h2
    · exact ih _ hp hd' (fun q hq => hl q (List.mem_cons_of_mem _ hq)) hn.2
end Go.Proofs.YtdkaacjeogifdaaGreat.H

/-
  A region that draws its order and holds loads beside calls that make memory: a load whose value is one in a whole class of frames and worlds may be taken first, if each step stays in the class.
-/
namespace Go.Proofs.YtdkaacjeogifdaaGreat.Dk

section
variable {P : Program} {ops : Array Oper} {Q : Exit → Act → World → Prop} {md : Region.Mode} {C : Act → World → Prop}

/-- Whatever order the draw gives: it ends in Q, and every step stays in the class. -/
def wpAnyC (P : Program) (md : Region.Mode) (ops : Array Oper) (Q : Exit → Act → World → Prop) (C : Act → World → Prop) : Nat → Array Bool → Act → World → Prop
  | 0, listed, a, w => Region.ready md ops listed = [] ∧ Q .normal a w
  | fuel + 1, listed, a, w => (Region.ready md ops listed = [] → Q .normal a w) ∧
    ∀ i ∈ Region.ready md ops listed, wpOp P ops Q i (fun a' w' => C a' w' ∧ wpAnyC P md ops Q C fuel (listed.setIfInBounds i true) a' w') a w

theorem wpAny_of_class : ∀ (fuel : Nat) (listed : Array Bool) (a : Act) (w : World), wpAnyC P md ops Q C fuel listed a w → wpAny P md ops Q fuel listed a w
  | 0, _, _, _, h => h
  | fuel + 1, _, _, _, h => ⟨h.1, fun i hi => wpOp_mono (fun a' w' h' => wpAny_of_class fuel _ a' w' h'.2) (h.2 i hi)⟩

/-- In all of the class the operation yields this one value, and leaves the world. -/
def Gives (P : Program) (ops : Array Oper) (C : Act → World → Prop) (o : Oper) (v : Value) : Prop :=
  ∀ a w, C a w → Region.wanted o (yielded ops a.tmps) = true ∧ (execOp a.eval o).run P w = .ok (.value v) w

theorem Gives.wpOp {i : Nat} {o : Oper} {v : Value} {a : Act} {w : World} (hi : ops[i]? = some o) (hg : Gives P ops C o v) (hc : C a w) {K : Act → World → Prop} (h : K (a.put o.dst v) w) : wpOp P ops Q i K a w := by
  obtain ⟨h1, h2⟩ := hg a w hc
  unfold Go.wpOp
  simp only [hi, h1, if_true, Oper.wp, h2, Oper.upon]
  exact .inl h

/-- the stand-in: the same slot, a constant -/
def standIn (o : Oper) (v : Value) : Oper := { o with op := .move (.const v), guard := none }
theorem standIn_yields (o : Oper) (v : Value) (a : Act) : Yields P ops (standIn o v) v a := by
  refine .inl ⟨rfl, fun w => ?_⟩
  rfl
theorem standIn_apart {o y : Oper} {v : Value} (h : o.apart ops y = true) : (standIn o v).apart ops y = true := by
  unfold Oper.apart at h ⊢
  simp only [Bool.and_eq_true] at h ⊢
  refine ⟨h.1, ?_⟩
  have e : (standIn o v).looksAt ops = [] := rfl
  rw [e]
  cases y.dst <;> rfl

theorem wpAnyC_first {i : Nat} {oi : Oper} {v : Value} (hi : ops[i]? = some oi) (hs : Region.noSelect ops = true)
    (hQ : ∀ c a w, Q (.panic c) (a.put oi.dst v) w → Q (.panic c) a w) (hg : Gives P ops C oi v) (hdn : ∀ a w, C (a.put oi.dst v) w → C a w) (hup : ∀ a w, C a w → C (a.put oi.dst v) w) :
    ∀ (fuel : Nat) (listed : Array Bool) (a : Act) (w : World),
      (∀ j oj, ops[j]? = some oj → j ≠ i → listed.getD j true = false → (∀ e ∈ oj.after, Region.binds md e = true → e.on ≠ i) → oi.apart ops oj = true) →
      i ∈ Region.ready md ops listed → C a w →
      wpAnyC P md ops Q C fuel (listed.setIfInBounds i true) (a.put oi.dst v) w → wpAnyC P md ops Q C (fuel + 1) listed a w
  | fuel, listed, a, w, hfree, hr, hc, H => by
    refine ⟨fun h => (by rw [h] at hr; cases hr), fun j hj => ?_⟩
    by_cases hji : j = i
    · subst hji
      exact hg.wpOp hi hc ⟨hup a w hc, H⟩
    · have hm := ready_mono hj hji
      cases fuel with
      | zero =>
        rw [H.1] at hm
        cases hm
      | succ fuel =>
        obtain ⟨hjun, oj, hoj, hall⟩ := mem_ready.1 hj
        have hnot : ∀ e ∈ oj.after, Region.binds md e = true → e.on ≠ i := fun e he hb heq => by
          have h1 := hall e he hb
          have h0 := (mem_ready.1 hr).1
          rw [heq] at h1
          rcases Nat.lt_or_ge i listed.size with h' | h'
          · simp [h'] at h0 h1; rw [h0] at h1; cases h1
          · simp [Array.getElem?_eq_none h'] at h1
        have h2 := wpOp_put (oi := standIn oi v) (v := v) hoj (standIn_apart (hfree j oj hoj hji hjun hnot)) (fun cs b h => by cases h) (fun cs b => Region.noSelect_spec hs j oj cs b hoj) hQ (standIn_yields oi v a) (H.2 j hm)
        have hfree' : ∀ k ok, ops[k]? = some ok → k ≠ i → (listed.setIfInBounds j true).getD k true = false →
            (∀ e ∈ ok.after, Region.binds md e = true → e.on ≠ i) → oi.apart ops ok = true := fun k ok hk hki hun hno => by
          refine hfree k ok hk hki ?_ hno
          by_cases hjk : j = k
          · subst hjk; exact hjun
          · rw [getD_set_ne true hjk] at hun; exact hun
        refine wpOp_mono (fun a' w' h3 => ?_) h2
        have hc' := hdn a' w' h3.2.1
        refine ⟨hc', wpAnyC_first hi hs hQ hg hdn hup fuel (listed.setIfInBounds j true) a' w' hfree' (ready_mono hr (Ne.symm hji)) hc' ?_⟩
        rw [Array.setIfInBounds_comm _ _ hji]
        exact h3.2.2

/-- A load is taken first. -/
theorem wpAnyC_take {i : Nat} {oi : Oper} {v : Value} {fuel : Nat} {listed : Array Bool} {a : Act} {w : World} (hi : ops[i]? = some oi) (hs : Region.noSelect ops = true)
    (hf : Region.free md ops listed i = true) (hr : (Region.ready md ops listed).contains i = true)
    (hQ : ∀ c a w, Q (.panic c) (a.put oi.dst v) w → Q (.panic c) a w) (hg : Gives P ops C oi v) (hdn : ∀ a w, C (a.put oi.dst v) w → C a w) (hup : ∀ a w, C a w → C (a.put oi.dst v) w)
    (hc : C a w) (h : wpAnyC P md ops Q C fuel (listed.setIfInBounds i true) (a.put oi.dst v) w) : wpAnyC P md ops Q C (fuel + 1) listed a w :=
  wpAnyC_first hi hs hQ hg hdn hup fuel listed a w (Region.free_spec hi hf) (by simpa using hr) hc h

/-- One operation alone may come up. -/
theorem wpAnyC_one {i : Nat} {o : Oper} {fuel : Nat} {listed : Array Bool} {a : Act} {w : World} (hr : Region.ready md ops listed = [i]) (ho : ops[i]? = some o)
    (h : ∀ K' : Act → World → Prop, (∀ a w, (C a w ∧ wpAnyC P md ops Q C fuel (listed.setIfInBounds i true) a w) → K' a w) → if Region.wanted o (yielded ops a.tmps) = true then Oper.wp P o a w K' Q else K' (a.put o.dst undef) w) :
    wpAnyC P md ops Q C (fuel + 1) listed a w := by
  refine ⟨fun h0 => (by rw [hr] at h0; cases h0), fun j hj => ?_⟩
  rw [hr] at hj
  obtain rfl : j = i := by simpa using hj
  exact wpOp_step ho h

theorem wpAnyC_done {listed : Array Bool} {a : Act} {w : World} (hr : Region.ready md ops listed = []) (h : Q .normal a w) : ∀ fuel, wpAnyC P md ops Q C fuel listed a w
  | 0 => ⟨hr, h⟩
  | _ + 1 => ⟨fun _ => h, by rw [hr]; simp⟩
/-- Two operations may come up. -/
theorem wpAnyC_two {i j : Nat} {oi oj : Oper} {fuel : Nat} {listed : Array Bool} {a : Act} {w : World} (hr : Region.ready md ops listed = [i, j]) (hi : ops[i]? = some oi) (hj : ops[j]? = some oj)
    (h1 : ∀ K' : Act → World → Prop, (∀ a w, (C a w ∧ wpAnyC P md ops Q C fuel (listed.setIfInBounds i true) a w) → K' a w) → if Region.wanted oi (yielded ops a.tmps) = true then Oper.wp P oi a w K' Q else K' (a.put oi.dst undef) w)
    (h2 : ∀ K' : Act → World → Prop, (∀ a w, (C a w ∧ wpAnyC P md ops Q C fuel (listed.setIfInBounds j true) a w) → K' a w) → if Region.wanted oj (yielded ops a.tmps) = true then Oper.wp P oj a w K' Q else K' (a.put oj.dst undef) w) :
    wpAnyC P md ops Q C (fuel + 1) listed a w := by
  refine ⟨fun h0 => (by rw [hr] at h0; cases h0), fun k hk => ?_⟩
  rw [hr] at hk
  rcases List.mem_cons.1 hk with rfl | hk
  · exact wpOp_step hi h1
  · obtain rfl : k = j := by simpa using hk
    exact wpOp_step hj h2
end

section
variable {P : Program} {ops : Array Oper} {Q : Exit → Act → World → Prop} {md : Region.Mode}
theorem wpAnyC_mono {C C' : Act → World → Prop} (hC : ∀ a w, C' a w → C a w) : ∀ (fuel : Nat) (listed : Array Bool) (a : Act) (w : World), wpAnyC P md ops Q C' fuel listed a w → wpAnyC P md ops Q C fuel listed a w
  | 0, _, _, _, h => h
  | fuel + 1, _, _, _, h => ⟨h.1, fun i hi => wpOp_mono (fun a' w' h' => ⟨hC _ _ h'.1, wpAnyC_mono hC fuel _ a' w' h'.2⟩) (h.2 i hi)⟩
end

/-- The class: these slots hold these values, these cells hold these. -/
def SlotsCells (ps : List (Nat × Value)) (qs : List (Addr × Value)) (a : Act) (u : World) : Prop := (∀ p ∈ ps, a.eval (.tmp p.1) = p.2) ∧ ∀ q ∈ qs, u.cell? q.1 = some q.2
theorem SlotsCells.put {ps : List (Nat × Value)} {qs : List (Addr × Value)} {a : Act} {u : World} (s : Nat) (v : Value) (hs : (ps.all fun p => p.1 != s) = true) :
    SlotsCells ps qs (a.put (some s) v) u ↔ SlotsCells ps qs a u := by
  have e : ∀ p ∈ ps, (a.put (some s) v).eval (.tmp p.1) = a.eval (.tmp p.1) := fun p hp => Act.eval_put (fun d hd => by
    have h1 := (List.all_eq_true.1 hs) p hp
    simp at h1 hd
    subst hd
    intro h
    injection h with h
    exact h1 h)
  constructor
  · rintro ⟨h, hb⟩
    exact ⟨fun p hp => (e p hp).symm.trans (h p hp), hb⟩
  · rintro ⟨h, hb⟩
    exact ⟨fun p hp => (e p hp).trans (h p hp), hb⟩
theorem SlotsCells.load {ps : List (Nat × Value)} {qs : List (Addr × Value)} {a : Act} {u : World} (h : SlotsCells ps qs a u) {s : Nat} {p : Addr} {v : Value} (hp : (s, Value.pointer (some p)) ∈ ps) (hq : (p, v) ∈ qs) :
    a.tmps[s]?.getD undef = .pointer (some p) ∧ u.cell? p = some v := ⟨by have := h.1 _ hp; simpa [Act.eval] using this, h.2 _ hq⟩

/-- a value of the class -/
theorem SlotsCells.val {ps : List (Nat × Value)} {qs : List (Addr × Value)} {a : Act} {u : World} (h : SlotsCells ps qs a u) {s : Nat} {v : Value} (hp : (s, v) ∈ ps) : a.tmps[s]?.getD undef = v := by have := h.1 _ hp; simpa [Act.eval] using this
end Go.Proofs.YtdkaacjeogifdaaGreat.Dk

/-
  The power of a disk: fuses, operations, Arm, Fail.
-/
namespace Go.Proofs.YtdkaacjeogifdaaGreat.Dk
open Go.RowKit

theorem set_same {cs : Array Value} {j : Nat} {v : Value} (h : cs[j]? = some v) : cs.setIfInBounds j v = cs := by
  obtain ⟨hj, rfl⟩ := Array.getElem?_eq_some_iff.1 h
  apply Array.toList_inj.1
  rw [Array.toList_setIfInBounds]
  apply List.ext_getElem?
  intro i
  by_cases e : j = i
  · subst e; simp [hj]
  · rw [List.getElem?_set_ne e]

theorem stops_at (g j : Nat) (f : Fuse) (cs : Array Value) (w : World) (hb : Box w g cs 81) (h0 : cs[j]? = some (.bool f.set)) (h1 : cs[j + 1]? = some (.int .i64 (f.left : Int))) (hf : f.left < 9223372036854775808) :
    Calls Tryz.prog 91 #[.pointer (some ⟨g, j, none⟩)] w fun e w' => e = .returned (.bool f.stops) ∧ Box w' g ((cs.setIfInBounds j (.bool f.then.set)).setIfInBounds (j + 1) (.int .i64 (f.then.left : Int))) 81 ∧ w.grownBy w' (some g) := by
  have c0 := hb.cell j
  have c1 := hb.cell (j + 1)
  rw [h0] at c0
  rw [h1] at c1
  have f0 := hb.frozen j
  have f1 := hb.frozen (j + 1)
  obtain ⟨s, n⟩ := f
  cases s with
  | false =>
    have e : ((cs.setIfInBounds j (.bool (Fuse.then ⟨false, n⟩).set)).setIfInBounds (j + 1) (.int .i64 ((Fuse.then ⟨false, n⟩).left : Int))) = cs := by
      show (cs.setIfInBounds j (.bool false)).setIfInBounds (j + 1) (.int .i64 (n : Int)) = cs
      rw [set_same h0, set_same h1]
    rw [e]
    go_enter Tryz.func91, Tryz.ntmps91
    go_wp2
    go_ret
    exact ⟨rfl, hb, World.grownBy.refl _ _⟩
  | true =>
    by_cases hn : 0 < n
    · have e1 : Fuse.then ⟨true, n⟩ = ⟨true, n - 1⟩ := by simp [Fuse.then, hn]
      have e2 : Fuse.stops ⟨true, n⟩ = false := by simp [Fuse.stops]; omega
      have e3 : ((n - 1 : Nat) : Int) = (n : Int) - 1 := by omega
      rw [e1, e2]
      have e4 : cs.setIfInBounds j (.bool true) = cs := set_same h0
      have hs := hb.store (j + 1) (.int .i64 ((n : Int) - 1))
      have hg := grown_store w g (j + 1) (.int .i64 ((n : Int) - 1))
      have hn' : (0 : Int) < n := by omega
      dsimp only at c1 hf
      clear h0 h1 hb e1 e2
      have E3 : Hid _ := e3
      have E4 : Hid _ := e4
      clear e3 e4
      go_enter Tryz.func91, Tryz.ntmps91
      go_wp2
      go_ret
      refine ⟨rfl, ?_, hg⟩
      show Box _ g ((cs.setIfInBounds j (.bool true)).setIfInBounds (j + 1) (.int .i64 ((n - 1 : Nat) : Int))) 81
      rw [E3.out, E4.out]
      exact hs
    · obtain rfl : n = 0 := by omega
      have hs := (hb.store j (.bool false)).store (j + 1) (.int .i64 0)
      have hg := grown_trans (grown_store w g j (.bool false)) (grown_store _ g (j + 1) (.int .i64 0))
      clear h0 h1 hb
      go_enter Tryz.func91, Tryz.ntmps91
      go_wp2
      go_ret
      exact ⟨rfl, hs, hg⟩

/-- Only the disk's own cells have turned, and of them only its numbers. -/
theorem Lies.turned {w w' : World} {g : Nat} {D D' : DS} {F : Nat → Prop} {gd cd : Nat} {vu : Value} {ps : List (Nat × Nat × Nat)} (h : Lies w g D F gd cd vu ps) (hg : w.grownBy w' (some g))
    (hb : Box w' g (diskC g (.slice (some ⟨gd, 0, none⟩) (D'.nb * 4096) cd) vu D') 81) (hd : D'.dur = D.dur) (hu : D'.uf = D.uf) (ok : D'.Ok) : Lies w' g D' F gd cd vu ps := by
  obtain ⟨cur, hcur, hrest⟩ := h.dur
  have ngd : gd ≠ g := hcur.ne h.box (by decide)
  refine ⟨hb, ?_, ?_, ?_, ?_, h.fg, h.fd, h.fu, fun i hi => Nat.lt_of_lt_of_le (h.flt i hi) hg.size, ok⟩
  · rw [hd]
    exact h.dur.same (hg.block gd hcur.lt (by simpa using ngd))
  · rw [hu]
    refine ⟨h.row.1, ?_⟩
    rcases h.row.2 with h1 | ⟨g', cap, cur', rfl, hb', hg', r⟩
    · exact .inl h1
    · have hne : g' ≠ g := Box.ne (w := w) (t := 89) hg' h.box (by decide)
      exact .inr ⟨g', cap, cur', rfl, hb', (hg.block g' (Array.getElem?_eq_some_iff.1 hg').1 (by simpa using hne)).trans hg', r⟩
  · rw [hu]; exact h.len
  · intro k h1 h2
    have h2' : k < D.uf.length := by rw [← hu]; exact h2
    obtain ⟨a, b, c, d⟩ := h.each k h1 h2'
    have e : D'.uf[k] = D.uf[k] := by simp only [hu]
    rw [e]
    obtain ⟨cur2, hb2, r2⟩ := b
    have hne : ps[k].2.1 ≠ g := hb2.ne h.box (by decide)
    exact ⟨a, RowB.same ⟨cur2, hb2, r2⟩ (hg.block _ hb2.lt (by simpa using hne)), c, d⟩

set_option maxRecDepth 100000 in
theorem operation_at {g : Nat} {w : World} {D : DS} {F : Nat → Prop} {gd cd : Nat} {vu : Value} {ps : List (Nat × Nat × Nat)} (h : Lies w g D F gd cd vu ps) :
    Calls Tryz.prog 81 #[.pointer (some ⟨g, 4, none⟩)] w fun e w' => e = .returned (.int .i64 (D.operE : Int)) ∧ Lies w' g D.oper F gd cd vu ps ∧ w.grownBy w' (some g) := by
  obtain ⟨_, _, _, _, c4, _⟩ := box_cells h.box
  cases hgone : D.gone with
  | true =>
    have e1 : D.operE = 6 := by simp [DS.operE, hgone]
    have e2 : D.oper = D := by simp [DS.oper, hgone]
    rw [e1, e2]
    rw [hgone] at c4
    go_enter Tryz.func81, Tryz.ntmps81
    go_wp2
    go_ret
    exact ⟨rfl, h, World.grownBy.refl _ _⟩
  | false =>
    rw [hgone] at c4
    have e0 : D.oper = { D with gone := D.arm.stops, arm := D.arm.then, fail := D.fail.then } := by simp [DS.oper, hgone]
    have e1 : D.operE = if D.arm.stops then 6 else if D.fail.stops then 4 else 0 := by simp [DS.operE, hgone]
    have hok := h.ok.oper
    rw [e0] at hok
    obtain ⟨E, hE⟩ : ∃ E, E = D.operE := ⟨_, rfl⟩
    obtain ⟨O, hO⟩ : ∃ O, O = D.oper := ⟨_, rfl⟩
    rw [← hE, ← hO]
    rw [e1] at hE
    rw [e0] at hO
    have HE : Hid _ := hE
    have HO : Hid _ := hO
    clear e0 e1 hE hO
    go_enter Tryz.func81, Tryz.ntmps81
    go_wp2_with fail
    refine wp_region_any (by kernel_rfl) ?_
    change wpAny _ _ _ _ _ _ _ (World.drew _)
    refine wpAny_take (i := 0) (v := ?_) rfl (by kernel_rfl) (by kernel_rfl) (by kernel_rfl) (fun _ _ _ h => h) (Or.inl ⟨by rfl, ?_⟩) ?_
    rotate_left
    · intro w
      go_simp
      with_reducible rfl
    refine wpAny_take (i := 1) (v := ?_) rfl (by kernel_rfl) (by kernel_rfl) (by kernel_rfl) (fun _ _ _ h => h) (Or.inl ⟨by rfl, ?_⟩) ?_
    rotate_left
    · intro w
      go_simp
      with_reducible rfl
    refine wpAny_take (i := 2) (v := ?_) rfl (by kernel_rfl) (by kernel_rfl) (by kernel_rfl) (fun _ _ _ h => h) (Or.inl ⟨by rfl, ?_⟩) ?_
    rotate_left
    · intro w
      go_simp
      with_reducible rfl
    refine wpAny_take (i := 4) (v := ?_) rfl (by kernel_rfl) (by kernel_rfl) (by kernel_rfl) (fun _ _ _ h => h) (Or.inl ⟨by rfl, ?_⟩) ?_
    rotate_left
    · intro w
      go_simp
      with_reducible rfl
    refine wpAny_take (i := 5) (v := ?_) rfl (by kernel_rfl) (by kernel_rfl) (by kernel_rfl) (fun _ _ _ h => h) (Or.inl ⟨by rfl, ?_⟩) ?_
    rotate_left
    · intro w
      go_simp
      with_reducible rfl
    refine wpAny_take (i := 6) (v := ?_) rfl (by kernel_rfl) (by kernel_rfl) (by kernel_rfl) (fun _ _ _ h => h) (Or.inl ⟨by rfl, ?_⟩) ?_
    rotate_left
    · intro w
      go_simp
      with_reducible rfl
    simp only [Act.put, List.setIfInBounds_toArray, List.set_cons_zero, List.set_cons_succ, List.getElem_toArray, List.getElem_cons_zero, List.getElem_cons_succ]
    refine wpAny_of_class (C := fun _ _ => True) _ _ _ _ ?_
    refine wpAnyC_one (i := 3) (by kernel_rfl) rfl (fun K hK => ?_)
    go_simp
    have hb0 : Box w.drew g (diskC g (.slice (some ⟨gd, 0, none⟩) (D.nb * 4096) cd) vu D) 81 := h.box
    refine (stops_at g 5 D.arm _ w.drew hb0 rfl rfl h.ok.arm).mono ?_
    rintro e w1 ⟨rfl, b1, g1⟩
    refine hK _ _ ⟨trivial, ?_⟩
    clear hK K
    refine wpAnyC_one (i := 7) (by kernel_rfl) rfl (fun K hK => ?_)
    go_simp
    refine (stops_at g 7 D.fail _ w1 b1 rfl rfl h.ok.fail).mono ?_
    rintro e w2 ⟨rfl, b2, g2⟩
    refine hK _ _ ⟨trivial, ?_⟩
    clear hK K
    have gr : w.grownBy w2 (some g) := grown_trans ⟨g1.os, g1.tape, g1.output, g1.size, g1.block⟩ g2
    have bx : Box w2 g #[.pointer (some ⟨g, 0, none⟩), .slice (some ⟨gd, 0, none⟩) (D.nb * 4096) cd, vu, .int .i64 (D.n : Int), .bool D.gone, .bool D.arm.then.set, .int .i64 (D.arm.then.left : Int), .bool D.fail.then.set, .int .i64 (D.fail.then.left : Int)] 81 := b2
    clear b1 b2 g1 g2 hb0 c4
    refine wpAnyC_mono (C' := SlotsCells [(12, .bool D.arm.stops), (16, .bool D.fail.stops)] []) (fun _ _ _ => trivial) _ _ _ _ ?_
    refine wpAnyC_take (i := 8) (v := .bool D.arm.stops) rfl (by kernel_rfl) (by kernel_rfl) (by kernel_rfl) (fun _ _ _ h => h) ?_ (fun fr u h => (SlotsCells.put 3 _ (by rfl)).1 h) (fun fr u h => (SlotsCells.put 3 _ (by rfl)).2 h) ?_ ?_
    · intro fr u hh
      have h1 := hh.val (s := 12) (v := .bool D.arm.stops) (by simp)
      exact ⟨rfl, by simp [execOp, h1, go_sem]⟩
    · refine ⟨fun p hp => ?_, fun q hq => by simp at hq⟩
      simp at hp
      rcases hp with rfl | rfl <;> rfl
    simp only [Act.put, List.setIfInBounds_toArray, List.set_cons_zero, List.set_cons_succ, List.getElem_toArray, List.getElem_cons_zero, List.getElem_cons_succ]
    refine wpAnyC_one (i := 9) (by kernel_rfl) rfl (fun K hK => ?_)
    go_simp
    refine hK _ _ ⟨?_, ?_⟩
    · refine ⟨fun p hp => ?_, fun q hq => by simp at hq⟩
      simp at hp
      rcases hp with rfl | rfl <;> rfl
    clear hK K
    refine wpAnyC_done (by kernel_rfl) ?_ _
    have f4 := bx.frozen 4
    have c4 := bx.cell 4
    simp only [List.getElem?_toArray, List.getElem?_cons_zero, List.getElem?_cons_succ] at c4
    cases ha : D.arm.stops with
    | true =>
      have b3 := bx.store 4 (.bool true)
      have g3 := grown_trans gr (grown_store w2 g 4 (.bool true))
      have hl := h.turned (D' := { D with gone := true, arm := D.arm.then, fail := D.fail.then }) g3 b3 rfl rfl (by rw [ha] at hok; exact hok)
      clear h hok bx gr b3
      have HO' : Hid (O = { D with gone := true, arm := D.arm.then, fail := D.fail.then }) := by have := HO.out; rw [ha] at this; exact this
      have HE' : Hid (E = 6) := by have := HE.out; rw [ha] at this; exact this
      clear HO HE
      go_wp2
      go_ret
      rw [HO'.out, HE'.out]
      exact ⟨rfl, hl, g3⟩
    | false =>
      have b3 : Box w2 g (diskC g (.slice (some ⟨gd, 0, none⟩) (D.nb * 4096) cd) vu { D with gone := false, arm := D.arm.then, fail := D.fail.then }) 81 := by rw [← hgone]; exact bx
      have hl := h.turned (D' := { D with gone := false, arm := D.arm.then, fail := D.fail.then }) gr b3 rfl rfl (by rw [ha] at hok; exact hok)
      clear h hok bx b3
      have HO' : Hid (O = { D with gone := false, arm := D.arm.then, fail := D.fail.then }) := by have := HO.out; rw [ha] at this; exact this
      clear HO
      cases hf : D.fail.stops with
      | true =>
        have HE' : Hid (E = 4) := by have := HE.out; rw [ha, hf] at this; exact this
        clear HE
        go_wp2
        go_ret
        rw [HO'.out, HE'.out]
        exact ⟨rfl, hl, gr⟩
      | false =>
        have HE' : Hid (E = 0) := by have := HE.out; rw [ha, hf] at this; exact this
        clear HE
        go_wp2
        go_ret
        rw [HO'.out, HE'.out]
        exact ⟨rfl, hl, gr⟩

def armE (n : Int) : Nat := if n < 0 then 2 else 0
theorem mayArm_at {g : Nat} {w : World} {D : DS} {F : Nat → Prop} {gd cd : Nat} {vu : Value} {ps : List (Nat × Nat × Nat)} (h : Lies w g D F gd cd vu ps) (n : Int) :
    Calls Tryz.prog 37 #[.pointer (some ⟨g, 0, none⟩), .int .i64 n] w fun e w' => e = .returned (.int .i64 (armE n : Int)) ∧ w = w' := by
  have c := isMade_at h
  by_cases hn : n < 0
  · have e : armE n = 2 := by simp [armE, hn]
    rw [e]
    go_enter Tryz.func37, Tryz.ntmps37
    go_wp2_with fail
    refine c.mono ?_
    rintro e w' ⟨rfl, rfl⟩
    go_wp2
    go_ret
    exact ⟨rfl, rfl⟩
  · have e : armE n = 0 := by simp [armE, hn]
    rw [e]
    go_enter Tryz.func37, Tryz.ntmps37
    go_wp2_with fail
    refine c.mono ?_
    rintro e w' ⟨rfl, rfl⟩
    go_wp2
    go_ret
    exact ⟨rfl, rfl⟩

def DS.armed (D : DS) (n : Int) : DS := if n < 0 then D else { D with arm := ⟨true, n.toNat⟩ }
def DS.failing (D : DS) (n : Int) : DS := if n < 0 then D else { D with fail := ⟨true, n.toNat⟩ }

theorem arm_at {g : Nat} {w : World} {D : DS} {F : Nat → Prop} (hd : IsDisk w g D F) (n : Int) (hn : n ≤ 9223372036854775807) :
    Calls Tryz.prog 12 #[.pointer (some ⟨g, 0, none⟩), .int .i64 n] w fun e w' => e = .returned (.int .i64 (armE n : Int)) ∧ IsDisk w' g (D.armed n) F ∧ Upd F w w' := by
  obtain ⟨gd, cd, vu, ps, h⟩ := hd
  have c := mayArm_at h n
  by_cases h0 : n < 0
  · have e : armE n = 2 := by simp [armE, h0]
    have e2 : D.armed n = D := by simp [DS.armed, h0]
    rw [e2, e]
    rw [e] at c
    go_enter Tryz.func12, Tryz.ntmps12
    go_wp2_with fail
    refine c.mono ?_
    rintro e w' ⟨rfl, rfl⟩
    go_wp2
    go_ret
    exact ⟨rfl, ⟨gd, cd, vu, ps, h⟩, Upd.refl _ _⟩
  · have e : armE n = 0 := by simp [armE, h0]
    have e2 : D.armed n = { D with arm := ⟨true, n.toNat⟩ } := by simp [DS.armed, h0]
    rw [e2, e]
    rw [e] at c
    obtain ⟨m, rfl⟩ := Int.eq_ofNat_of_zero_le (show 0 ≤ n by omega)
    obtain ⟨_, _, _, _, _, c5, c6, _⟩ := box_cells h.box
    have f5 := h.box.frozen 5
    have f6 := h.box.frozen 6
    have b3 := (h.box.store 5 (.bool true)).store 6 (.int .i64 (m : Int))
    have g3 := grown_trans (grown_store w g 5 (.bool true)) (grown_store _ g 6 (.int .i64 (m : Int)))
    have hl := h.turned (D' := { D with arm := ⟨true, m⟩ }) g3 b3 rfl rfl ⟨h.ok.len, h.ok.lo, h.ok.hi, h.ok.each, by show m < _; omega, h.ok.fail⟩
    have hu : Upd F w _ := (Upd.refl F w).grown g3 (fun k e => by cases e; exact .inl h.fg)
    clear b3 g3 e2
    go_enter Tryz.func12, Tryz.ntmps12
    go_wp2_with fail
    refine c.mono ?_
    rintro e w' ⟨rfl, rfl⟩
    go_wp2
    go_ret
    exact ⟨rfl, ⟨gd, cd, vu, ps, hl⟩, hu⟩

end Go.Proofs.YtdkaacjeogifdaaGreat.Dk

/-
  Disks that are made: Clone, holding, New, Load.
-/
namespace Go.Proofs.YtdkaacjeogifdaaGreat.Dk
open Go.RowKit

theorem eqlSlice (ad : Addr) (n cap : Nat) (u : World) : (binOp .eql 22 (.slice (some ad) n cap) (.slice none 0 0)).run Tryz.prog u = .ok (.bool false) u := by
  have h : ∀ d : Nat, (Op.equalIn (d + 1) 22 (.slice (some ad) n cap) (.slice none 0 0)).run Tryz.prog u = .ok false u := fun d => by
    simp [Op.equalIn, run_underlying Tryz.underlying22]
  simp only [binOp]
  simp [Op.equal, Op.maxDepth, h 9999]

theorem clone_at (cap n : Nat) (ad : Addr) (xs : List UInt8) (w : World) (hl : xs.length = n) (h0 : 0 < n) (hn : n ≤ 100000000) (hr : Rd w (some ad) xs) :
    Calls Tryz.prog 46 #[.slice (some ad) n cap] w fun e w' => ∃ g cap', e = .returned (.slice (some ⟨g, 0, none⟩) n cap') ∧ w.heap.size ≤ g ∧ RowB w' g cap' xs ∧ Below w.heap.size w w' := by
  obtain ⟨i0, hi, hz0, hz1, hz2⟩ := info_parts info5
  have hb0 : Below w.heap.size w (w.alloc (.cells #[] 5)) := (Below.refl _ _).alloc (Nat.le_refl _) _
  have hr1 := hr.below hb0 (Nat.le_refl _)
  have ho : (w.alloc (.cells #[] 5)).ownsRow w.heap.size 5 1 (.slice (some ⟨w.heap.size, 0, none⟩) 0 0) 0 [] := World.ownsRow_made w #[] 0 (Nat.le_refl _) (by simp [maxLen]) rfl
  have Hl : Hid _ := hl
  clear hl
  have z0 := hb0.size
  have he := eqlSlice ad n cap
  go_enter Tryz.func46, Tryz.ntmps46
  go_wp2_with (at_builtin; refine wpList_append_bytes rfl _ _ rfl w.heap.size (.slice (some ⟨w.heap.size, 0, none⟩) 0 0) 0 [] rfl ho (some ad) n cap xs rfl Hl.out hr1 (by simp) (by omega) z0 ?_)
  intro v1 w1 o1 g1
  obtain ⟨g, cap', rfl, hg, hrow⟩ := RowB.owns o1 h0
  have B1 : Below w.heap.size w w1 := hb0.grown g1 z0 (fun k hk => by simp [Value.ownBlock] at hk; omega)
  clear o1 g1 ho hr1 hb0
  go_wp2
  go_ret
  exact ⟨g, cap', rfl, hg, hrow, B1⟩

theorem holding_at (gd cd nb : Nat) (d : List UInt8) (w : World) (hrow : RowB w gd cd d) (hl : d.length = nb * 4096) (h1 : 1 ≤ nb) (h2 : nb ≤ 512) :
    Calls Tryz.prog 35 #[.slice (some ⟨gd, 0, none⟩) (nb * 4096) cd] w fun e w' => e = .returned (.pointer (some ⟨w.heap.size, 0, none⟩)) ∧ IsDisk w' w.heap.size (DS.new nb d) (fun i => i = w.heap.size ∨ i = gd) ∧ Below w.heap.size w w' := by
  have b1 := Box.new w (diskC w.heap.size (.slice (some ⟨gd, 0, none⟩) (nb * 4096) cd) (.slice none 0 0) (DS.new nb d)) 81
  have B1 := (Below.refl w.heap.size w).alloc (Nat.le_refl _) (.cells (diskC w.heap.size (.slice (some ⟨gd, 0, none⟩) (nb * 4096) cd) (.slice none 0 0) (DS.new nb d)) 81)
  have hlt := hrow.lt
  have hs := B1.size
  have hlies : Lies _ w.heap.size (DS.new nb d) (fun i => i = w.heap.size ∨ i = gd) gd cd (.slice none 0 0) [] :=
    { box := b1, dur := hrow.same (B1.block gd hlt), row := World.ownsRow_nil _ _ _ _, len := rfl, each := fun k h => by simp at h, fg := .inl rfl, fd := .inr rfl, fu := fun k h => by simp [Value.ownBlock] at h,
      flt := fun i hi => by
        rcases hi with rfl | rfl
        · exact b1.lt
        · omega
      ok := DS.Ok.new hl h1 h2 }
  clear b1 hrow hl
  go_enter Tryz.func35, Tryz.ntmps35
  go_wp2
  go_ret
  exact ⟨rfl, ⟨_, _, _, _, hlies⟩, B1⟩

theorem made_zeros (n : Nat) : (madeCells #[Value.int .u8 0] n) = (bcs (List.replicate n 0)).toArray := made_zero n

/-- noughts -/
def nought (n : Nat) : List UInt8 := List.replicate n 0
theorem nought_length (n : Nat) : (nought n).length = n := by simp [nought]

theorem make_run (n : Nat) (hn : n ≤ 281474976710656) (u : World) : (Instr.makeSlice 22 (.int .i64 (n : Int)) (.int .i64 (n : Int))).run Tryz.prog u =
    .ok (.slice (some ⟨u.heap.size, 0, none⟩) n n) (u.alloc (.cells (bcs (nought n)).toArray 5)) := by
  obtain ⟨i0, hi, hz0, hz1, hz2⟩ := info_parts info5
  have h := run_make (P := Tryz.prog) u 22 5 i0 (.int .u8 0) Tryz.underlying22 hi hz0 .i64 .i64 (n : Int) (n : Int) (by omega) (Int.le_refl _) (by rw [hz2]; omega) (by omega)
  have e : ((n : Int)).toNat = n := by omega
  rw [e, hz1, Nat.mul_one] at h
  have e2 : madeCells #[.int .u8 0] n = (bcs (nought n)).toArray := made_zero n
  rw [← e2]
  exact h

/-- a disk in new blocks -/
def NewDisk (w w' : World) (g : Nat) (D : DS) : Prop := ∃ F : Nat → Prop, IsDisk w' g D F ∧ (∀ i, F i → w.heap.size ≤ i) ∧ Below w.heap.size w w'

theorem new_at (nb : Nat) (w : World) (h1 : 1 ≤ nb) (h2 : nb ≤ 512) :
    Calls Tryz.prog 10 #[.int .i64 (nb : Int)] w fun e w' => ∃ g, e = .returned (.tuple #[.pointer (some ⟨g, 0, none⟩), .int .i64 0]) ∧ NewDisk w w' g (DS.new nb (nought (nb * 4096))) := by
  have c := rightSize_at nb w
  have hc : (decide ((1 : Int) ≤ (nb : Int)) && decide ((nb : Int) ≤ 512)) = true := by simp; omega
  rw [hc] at c
  have hm := make_run (nb * 4096) (by omega)
  have em : ((nb * 4096 : Nat) : Int) = (nb : Int) * 4096 := by omega
  rw [em] at hm
  clear em
  have own := own_lit w (nought (nb * 4096))
  have B1 := (Below.refl w.heap.size w).alloc (Nat.le_refl _) (.cells (bcs (nought (nb * 4096))).toArray 5)
  have rw0 := RowB.own own (by rw [nought_length]; unfold maxLen; omega)
  rw [nought_length] at rw0
  have hlen : (nought (nb * 4096)).length = nb * 4096 := nought_length _
  generalize nought (nb * 4096) = Z at hm own B1 rw0 hlen ⊢
  obtain ⟨U, hU⟩ : ∃ U, U = w.alloc (.cells (bcs Z).toArray 5) := ⟨_, rfl⟩
  rw [← hU] at B1 rw0
  have ch := holding_at w.heap.size (nb * 4096) nb Z U rw0 hlen h1 h2
  have HU : Hid _ := hU
  clear own hU hlen hc
  go_enter Tryz.func10, Tryz.ntmps10
  go_wp2_with fail
  refine c.mono ?_
  rintro e w' ⟨rfl, rfl⟩
  go_wp2_with fail
  rw [← HU.out]
  refine ch.mono ?_
  rintro e w2 ⟨rfl, hd, b2⟩
  have B2 := B1.trans (b2.mono B1.size)
  have z1 := B1.size
  clear hm ch
  go_wp2
  go_ret2
  exact ⟨_, rfl, _, hd, fun i hi => by rcases hi with rfl | rfl; exact z1; exact Nat.le_refl _, B2⟩

theorem new_bad (n : Int) (w : World) (h : n < 1 ∨ 512 < n) :
    Calls Tryz.prog 10 #[.int .i64 n] w fun e w' => e = .returned (.tuple #[.pointer none, .int .i64 2]) ∧ w = w' := by
  have c := rightSize_at n w
  have hc : (decide ((1 : Int) ≤ n) && decide (n ≤ 512)) = false := by simp; omega
  rw [hc] at c
  clear hc h
  go_enter Tryz.func10, Tryz.ntmps10
  go_wp2_with fail
  refine c.mono ?_
  rintro e w' ⟨rfl, rfl⟩
  go_wp2
  go_ret2
  exact ⟨rfl, rfl⟩

end Go.Proofs.YtdkaacjeogifdaaGreat.Dk
