/-
  JImg, DkBytes, DkPure, DkMem, DkSmall, JSmall, JNone, JNone2, DkLoads, DkPower, DkMake, DkCarry, DkAll, DkFlush, DkCrash, DkLate, DkWrite, DkTold, JRow: put together.
-/
import Derived.Test.YtnldkpckojhbhaaGreatG3
import Derived.Deep.RegionHeld3
import Derived.Deep.AppendLies
import Derived.Test.YtnldkpckojhbhaaGreatRows
import Derived.WalkKit
import Derived.WalkSpells
import Derived.WalkLawsBesides
import Derived.Laws.BytesArg
import Derived.Laws.AppendOwnNone
import Derived.ProofKit
import Derived.Laws.CopyOwn
import Derived.Deep.QuietTactic
import Derived.BigQuiet
import Derived.LaidEqlPtr
import Derived.Orders
import Derived.RegionTactic
import Derived.Deep.Cut
/-
  The law's images, at blocks, made of a number.
-/
namespace Go.Proofs.YtnldkpckojhbhaaGreat.J
open Go.RowKit
open Go.Proofs.YtnldkpckojhbhaaGreat.Rc (GG GetJ imgC madeL RowB owns_below owns_shape owns_block)

def nk (N : Nat) : Nat → Nat
  | 0 => N
  | k + 1 => nk N k / 2 + k
theorem nk_le (N : Nat) (h : N ≤ 2000000) : ∀ k, k ≤ 100 → nk N k ≤ 2000000
  | 0, _ => h
  | k + 1, hk => by
    have := nk_le N h k (by omega)
    show nk N k / 2 + k ≤ _
    omega
def imgL (bs : List Int) (N k : Nat) : List (Int × List UInt8) := (List.range k).map fun i => (bs.getD i 0, madeL (nk N i : Int) 4096)
theorem imgL_succ (bs : List Int) (N k : Nat) (h : k < bs.length) : imgL bs N (k + 1) = imgL bs N k ++ [(bs[k], madeL (nk N k : Int) 4096)] := by simp [imgL, List.range_succ, h]
set_option maxRecDepth 100000 in
set_option maxHeartbeats 4000000 in
theorem images_at (w : World) (b o n c N : Nat) (bs : List Int) (hl : bs.length = n) (hn : n ≤ 40) (hN : N ≤ 2000000) (hb : ∀ j (h : j < bs.length), w.cell? ⟨b, o + j, none⟩ = some (.int .i64 bs[j])) :
    Calls Tryz.prog 16 #[.slice (some ⟨b, o, none⟩) n c, .int .i64 (N : Int)] w fun r w' => ∃ a' c' qs, r = .returned (.slice a' n c') ∧ w'.ownsRow w.heap.size 89 2 (.slice a' n c') n (imgC qs) ∧ GetJ w.heap.size w' qs ∧ qs.map (fun p => (p.b, p.xs)) = imgL bs N n ∧ Below w.heap.size w w' := by
  obtain ⟨i0, hi, hz0, hz1, hz2⟩ := info_parts Rc.info38
  have HL : Hid (bs.length = n) := hl
  have HB : Hid (∀ j (h : j < bs.length), w.cell? ⟨b, o + j, none⟩ = some (.int .i64 bs[j])) := hb
  clear hl hb
  go_enter Tryz.func16, Tryz.ntmps16
  go_wp2_with fail
  go_loopw [1, 5, 6] (fun x v i u => ∃ (k : Nat) (qs : List GG), k ≤ n ∧ i = .int .i64 (k : Int) ∧ x = .int .i64 (nk N k : Int) ∧ u.ownsRow w.heap.size 89 2 v k (imgC qs) ∧ GetJ w.heap.size u qs ∧ qs.map (fun p => (p.b, p.xs)) = imgL bs N k ∧ Below w.heap.size w u) (fun _ _ i _ => n - (intOf i).toNat)
  case atStart => exact ⟨0, [], Nat.zero_le _, rfl, rfl, World.ownsRow_nil _ _ _ _, ⟨fun p hp => (by cases hp), List.nodup_nil⟩, rfl, Below.refl _ _⟩
  case round =>
    obtain ⟨k, qs, hk, rfl, rfl, hown, hJ, hps, B⟩ := hrel
    have HPS : Hid (qs.map (fun p => (p.b, p.xs)) = imgL bs N k) := hps
    have HJ : Hid (GetJ w.heap.size wr qs) := hJ
    have HOWN : Hid (wr.ownsRow w.heap.size 89 2 u5 k (imgC qs)) := hown
    clear hps hJ
    obtain ⟨av, cv, rfl⟩ := owns_shape hown
    by_cases hlt : k < n
    · have k1 : k < bs.length := by rw [HL.out]; exact hlt
      have g0 := HB.out k k1
      have lb : b < w.heap.size := block_lt_of_cell g0
      have hstep : Hid (imgL bs N (k + 1) = imgL bs N k ++ [(bs[k], madeL (nk N k : Int) 4096)]) := imgL_succ bs N k k1
      have hml : Hid ((madeL (nk N k : Int) 4096).length = 4096) := Rc.madeK_length _ _ _
      have cM := Rc.made_at (nk N k : Int) 4096 wr.drew (by omega)
      have hnk := nk_le N hN k (by omega)
      have hnx : Hid (nk N (k + 1) = nk N k / 2 + k) := rfl
      generalize nk N k = nn at cM hstep hml hnk hnx ⊢
      obtain ⟨ml, hmd⟩ : ∃ l, l = madeL (nn : Int) 4096 := ⟨_, rfl⟩
      rw [← hmd] at cM hstep hml
      generalize (bs[k]'k1) = bx at g0 hstep
      clear hmd
      have HS : Hid (∀ u : World, Below w.heap.size w u → u.cell? ⟨b, o + k, none⟩ = some (.int .i64 bx) ∧ Hid (Below w.heap.size w u)) := fun u hu =>
        ⟨(hu.cell (p := ⟨b, o + k, none⟩) lb).trans g0, hu⟩
      have hk0 : (0 : Int) ≤ (k : Int) := by omega
      have hki : (k : Int) < (n : Int) := by omega
      have hk40 : (k : Int) < 40 := by omega
      have hdv : ((nn : Int).tdiv 2) = ((nn / 2 : Nat) : Int) := by rw [Int.tdiv_eq_ediv_of_nonneg (by omega)]; omega
      have hd2 : nn / 2 ≤ 1000000 := by omega
      generalize hnq : nn / 2 = nq at hdv hnx hd2
      have hwq : IntKind.i64.wrap (nq : Int) = (nq : Int) := by rw [IntKind.wrap_i64]; omega
      clear hnq
      clear g0 lb hown
      go_wp2_with fail
      go_region_held3 (fun u => u.cell? ⟨b, o + k, none⟩ = some (.int .i64 bx) ∧ Hid (Below w.heap.size w u))
        (first | with_reducible exact HS.out _ B.drew | with_reducible exact HS.out _ B1 | with_reducible exact HS.out _ B2 | with_reducible exact HS.out _ (B1.alloc B1.size _))
        (first
          | (go_at_call 21; refine Calls.mono cM ?_; rintro r W ⟨rfl, om, bW⟩
             have rowM : Hid (RowB W wr.heap.size 4096 ml) := by
               have := Rc.RowB.own om (by rw [hml.out]; decide)
               rwa [hml.out] at this
             have J2 : Hid (GetJ w.heap.size W (qs ++ [⟨bx, ml, wr.heap.size, 4096⟩])) := (HJ.out.below ((Below.refl wr.heap.size wr).drew)).snoc bW ⟨bx, ml, wr.heap.size, 4096⟩ rowM.out (Nat.le_refl _) hml.out B.size
             have O2 : Hid (W.ownsRow w.heap.size 89 2 (.slice av k cv) k (imgC qs)) := owns_below (owns_below HOWN.out ((Below.refl wr.heap.size wr).drew)) bW
             have B1 := B.drew.trans (bW.mono B.size)
             clear om bW cM B)
          | ((refine step_append_lies _ (by rfl) _ _ _ (by rfl) w.heap.size 89 i0 _ 2 32 Tryz.underlying29 hi hz0 hz1 hz2 rfl (by omega) (.slice av k cv) k (imgC qs) (by rfl) (owns_below O2.out ((Below.refl _ W).alloc (Nat.le_refl _) _))
                ⟨W.heap.size, 0, none⟩ 1 1 [.int .i64 bx, .slice (some ⟨wr.heap.size, 0, none⟩) 4096 4096] (by rfl) (by rfl) (World.news_of_block (cs := #[.int .i64 bx, .slice (some ⟨wr.heap.size, 0, none⟩) 4096 4096]) (t := 89) (fr := (0, 0)) (heap_alloc_new W _)) (by intro u hu; simp at hu; rcases hu with rfl | rfl <;> rfl)
                (by omega) (by unfold maxLen; omega) (by omega) (by simp; exact Nat.le_succ_of_le B1.size) (W.heap.size + 1) (by simp) ?_)
             intro gg gc w1 hown1 hgrow hat hlt1
             have B2 := (B1.alloc B1.size (.cells #[.int .i64 bx, .slice (some ⟨wr.heap.size, 0, none⟩) 4096 4096] 89)).grown hgrow (by simp; exact Nat.le_succ_of_le B1.size) (fun j e => (owns_block O2.out j e).1)
             have J3 : Hid (GetJ w.heap.size w1 (qs ++ [⟨bx, ml, wr.heap.size, 4096⟩])) := (J2.out.below ((Below.refl _ W).alloc (Nat.le_refl _) (.cells #[.int .i64 bx, .slice (some ⟨wr.heap.size, 0, none⟩) 4096 4096] 89))).grown (owns_below O2.out ((Below.refl _ W).alloc (Nat.le_refl _) _)) (by decide) hgrow
             clear hgrow hat hlt1))
      have O5 : Hid (w1.ownsRow w.heap.size 89 2 (.slice (some ⟨gg, 0, none⟩) (k + 1) gc) (k + 1) (imgC (qs ++ [⟨bx, ml, wr.heap.size, 4096⟩]))) := by
        have e : imgC (qs ++ [⟨bx, ml, wr.heap.size, 4096⟩]) = imgC qs ++ [.int .i64 bx, .slice (some ⟨wr.heap.size, 0, none⟩) 4096 4096] := by simp [imgC]
        rw [e]
        exact hown1
      clear hown1 J2 O2 B1
      go_wp2_with fail
      go_roundw
      case rel => exact ⟨k + 1, _, by omega, by push_cast; rfl, by rw [hnx.out]; push_cast; rfl, O5.out, J3.out, by rw [List.map_append, HPS.out, hstep.out]; rfl, B2⟩
      case measure => simp [intOf]; omega
    · have hke : k = n := by omega
      rw [hke] at HOWN HPS ⊢
      clear hke hlt hk hown
      go_wp2_with fail
      go_ret
      exact ⟨_, _, qs, rfl, HOWN.out, HJ.out, HPS.out, B⟩
end Go.Proofs.YtnldkpckojhbhaaGreat.J

/-
  Bytes in memory, whatever the program: rows that are read, rows of one's own, copies; told over this seat's tables.
-/
namespace Go.Proofs.YtnldkpckojhbhaaGreat.Dk
open Go.RowKit

theorem u8_lt (c : UInt8) : c.toNat < 256 := c.toNat_lt
theorem ofNat_toNat (v : Nat) : (UInt8.ofNat v).toNat = v % 256 := by simp
def bc (c : UInt8) : Value := .int .u8 (c.toNat : Int)
def bcs (l : List UInt8) : List Value := l.map bc
theorem bcs_length (l : List UInt8) : (bcs l).length = l.length := by simp [bcs]
theorem bcs_append (l r : List UInt8) : bcs (l ++ r) = bcs l ++ bcs r := by simp [bcs]
theorem bcs_getElem? (l : List UInt8) (j : Nat) (h : j < l.length) : (bcs l)[j]? = some (.int .u8 (l[j].toNat : Int)) := by simp [bcs, bc, List.getElem?_eq_getElem h]
theorem bcs_oneCell (l : List UInt8) : ∀ v ∈ bcs l, v.oneCell' = true := by
  intro v hv
  obtain ⟨_, _, rfl⟩ := List.mem_map.1 hv
  rfl

def Own (w : World) (g : Nat) (ys : List UInt8) : Prop := w.heap[g]? = some (.cells (bcs ys).toArray 5 (0, 0))

theorem Own.cell {w : World} {g : Nat} {ys : List UInt8} (h : Own w g ys) (j : Nat) (hj : j < ys.length) : w.cell? ⟨g, j, none⟩ = some (.int .u8 (ys[j].toNat : Int)) := by
  rw [cell_of_row w g j _ 5 (0, 0) h]
  simpa using bcs_getElem? ys j hj
theorem Own.frozen {w : World} {g : Nat} {ys : List UInt8} (h : Own w g ys) (j : Nat) : w.frozen? ⟨g, j, none⟩ = false := frozen_of_row w g j _ 5 h
theorem Own.lt {w : World} {g : Nat} {ys : List UInt8} (h : Own w g ys) : g < w.heap.size := (Array.getElem?_eq_some_iff.1 h).1
theorem Own.store {w : World} {g : Nat} {ys : List UInt8} (h : Own w g ys) (j : Nat) (c : UInt8) : Own (w.setCell ⟨g, j, none⟩ (.int .u8 (c.toNat : Int))) g (ys.set j c) := by
  unfold Own
  rw [heap_setCell_same w g j _ 5 _ h]
  congr 2
  apply Array.toList_inj.1
  simp [bcs, bc]
theorem Own.below {B : Nat} {w w' : World} {g : Nat} {ys : List UInt8} (h : Own w g ys) (hb : Below B w w') (hg : g < B) : Own w' g ys := (hb.block g hg).trans h

theorem grown_trans {a b c : World} {row : Option Nat} (h : a.grownBy b row) (k : b.grownBy c row) : a.grownBy c row :=
  ⟨k.os.trans h.os, k.tape.trans h.tape, k.output.trans h.output, Nat.le_trans h.size k.size, fun i hi hr => (k.block i (Nat.lt_of_lt_of_le hi h.size) hr).trans (h.block i hi hr)⟩
theorem grown_store (w : World) (g j : Nat) (u : Value) : w.grownBy (w.setCell ⟨g, j, none⟩ u) (some g) :=
  ⟨rfl, rfl, rfl, by simp, fun k _ hk => heap_setCell_other w ⟨g, j, none⟩ k u (fun e => hk (by simp [e]))⟩
theorem grown_setRow (w : World) (g : Nat) (cs : Array Value) : w.grownBy (w.setRow g cs) (some g) :=
  ⟨rfl, rfl, rfl, by simp [World.setRow], fun k _ hk => setRow_other w g k cs (fun e => hk (by simp [e]))⟩

def Rd (w : World) (a : Option Addr) (xs : List UInt8) : Prop :=
  0 < xs.length → ∃ b o, a = some ⟨b, o, none⟩ ∧ ∀ j (h : j < xs.length), w.cell? ⟨b, o + j, none⟩ = some (.int .u8 (xs[j].toNat : Int))
theorem Rd.nil (w : World) (a : Option Addr) : Rd w a [] := fun h => absurd h (by simp)
theorem Own.rd {w : World} {g : Nat} {ys : List UInt8} (h : Own w g ys) : Rd w (some ⟨g, 0, none⟩) ys := fun _ => ⟨g, 0, rfl, fun j hj => by rw [Nat.zero_add]; exact h.cell j hj⟩
theorem Rd.below {B : Nat} {w w' : World} {a : Option Addr} {xs : List UInt8} (h : Rd w a xs) (hb : Below B w w') (hB : w.heap.size ≤ B) : Rd w' a xs := fun hp => by
  obtain ⟨b, o, ha, hc⟩ := h hp
  refine ⟨b, o, ha, fun j hj => ?_⟩
  have hlt : b < w.heap.size := block_lt_of_cell (hc j hj)
  rw [hb.cell (p := ⟨b, o + j, none⟩) (Nat.lt_of_lt_of_le hlt hB)]
  exact hc j hj

theorem info5 : (Tryz.prog.info? 5).map (fun i => (i.zero, i.size, i.bytes)) = some (some (.int .u8 0), 1, 1) := by kernel_rfl
theorem size5 : (Tryz.prog.info? 5).map (·.size) = some 1 := by kernel_rfl

theorem made_zero (n : Nat) : (madeCells #[Value.int .u8 0] n) = (bcs (List.replicate n 0)).toArray := by
  apply Array.toList_inj.1
  apply List.ext_getElem
  · simp [madeCells, bcs]
  · intro i h1 h2
    simp [madeCells, bcs, bc, Nat.mod_one]

theorem conv_run (u : World) (a : Option Addr) (cap : Nat) (xs : List UInt8) (hr : Rd u a xs) : (convert 37 9 (.slice a xs.length cap)).run Tryz.prog u = .ok (.string ⟨xs.toArray⟩) u := by
  cases a with
  | none =>
    by_cases h0 : 0 < xs.length
    · obtain ⟨b, o, h, _⟩ := hr h0
      simp at h
    · obtain rfl : xs = [] := List.eq_nil_of_length_eq_zero (by omega)
      exact run_convert_bytes_nil u 37 5 Tryz.underlying37 Tryz.underlying5 0 cap 9 Tryz.underlying9
  | some a =>
    exact run_convert_bytes_back u 37 9 5 a cap xs Tryz.underlying37 Tryz.underlying5 Tryz.underlying9 (fun j hj => by
      obtain ⟨b, o, h, hc⟩ := hr (by omega)
      obtain rfl := Option.some.inj h
      rw [Addr.add_lit]
      exact hc j hj)

theorem same_any (a b : Option Addr) (ca cb : Nat) (xs ys : List UInt8) (w : World) (ha : Rd w a xs) (hb : Rd w b ys) :
    Calls Tryz.prog 29 #[.slice a xs.length ca, .slice b ys.length cb] w fun e w' => e = .returned (.bool (xs == ys)) ∧ w = w' := by
  have h1 := conv_run w a ca xs ha
  have h2 := conv_run w b cb ys hb
  go_enter Tryz.func29, Tryz.ntmps29
  go_wp2
  go_ret
  exact ⟨rfl, rfl⟩

theorem own_lit (w : World) (xs : List UInt8) : Own (w.alloc (.cells (bcs xs).toArray 5)) w.heap.size xs := heap_alloc_new w _

theorem same_at (ca cb n m : Nat) (a b : Option Addr) (xs ys : List UInt8) (w : World) (hn : xs.length = n) (hm : ys.length = m) (ha : Rd w a xs) (hb : Rd w b ys) :
    Calls Tryz.prog 29 #[.slice a n ca, .slice b m cb] w fun e w' => e = .returned (.bool (xs == ys)) ∧ w = w' := by
  subst hn hm; exact same_any a b ca cb xs ys w ha hb

theorem owns_rd {w : World} {B n : Nat} {v : Value} {ys : List UInt8} (h : w.ownsRow B 5 1 v n (bcs ys)) :
    ∃ a cap, v = .slice a n cap ∧ ys.length = n ∧ n ≤ cap ∧ cap ≤ maxLen ∧ Rd w a ys ∧ (0 < n → ∃ g, a = some ⟨g, 0, none⟩ ∧ B ≤ g ∧ g < w.heap.size) := by
  have hl : ys.length = n := by have := h.1; rw [bcs_length] at this; omega
  rcases h.2 with ⟨rfl, rfl⟩ | ⟨g, cap, cur, rfl, hb, hg, hnc, hcm, hcs, htake⟩
  · have h0 : ys = [] := List.eq_nil_of_length_eq_zero hl
    subst h0
    exact ⟨none, 0, rfl, rfl, Nat.le_refl _, by simp [maxLen], Rd.nil _ _, fun h => by omega⟩
  · refine ⟨some ⟨g, 0, none⟩, cap, rfl, hl, hnc, hcm, fun _ => ⟨g, 0, rfl, fun j hj => ?_⟩, fun _ => ⟨g, rfl, hb, (Array.getElem?_eq_some_iff.1 hg).1⟩⟩
    have := h.cells (g := g) rfl j _ (bcs_getElem? ys j hj)
    rw [Addr.add_lit] at this
    exact this

theorem wpList_append_bytes {w : World} {ops : Array Oper} {rest : List Oper} {o : Oper} {a : Act} {Q : Exit → Act → World → Prop} (hgd : o.guard = none) (s x : Operand)
    (ho : o.op = .call { callee := .builtin .append, args := #[s, x], argTypes := #[37, 37] })
    (base : Nat) (v : Value) (n : Nat) (xs : List Value) (hs : a.eval s = v) (hown : w.ownsRow base 5 1 v n xs)
    (ao : Option Addr) (m c : Nat) (ys : List UInt8) (hx : a.eval x = .slice ao m c) (hl : ys.length = m) (hr : Rd w ao ys) (hnil : ao = none → c = 0) (hb : n + m ≤ 140737488355328) (hbase : base ≤ w.heap.size)
    (h : ∀ v' w', w'.ownsRow base 5 1 v' (n + m) (xs ++ bcs ys) → w.grownBy w' v.ownBlock → wpList Tryz.prog ops Q rest (a.put o.dst v') w') : wpList Tryz.prog ops Q (o :: rest) a w := by
  obtain ⟨i0, hi, hz0, hz1, hz2⟩ := info_parts info5
  cases ao with
  | none =>
    obtain rfl := hnil rfl
    have h0 : ys.length = 0 := by
      apply Decidable.byContradiction
      intro h'
      obtain ⟨_, _, h', _⟩ := hr (by omega)
      simp at h'
    obtain rfl : ys = [] := List.eq_nil_of_length_eq_zero h0
    obtain rfl : m = 0 := hl.symm
    exact wpList_append_own_none hgd s x 37 ho base 5 i0 1 Tryz.underlying37 hi v n xs hs hown hx (h v w (by simpa [bcs] using hown) (World.grownBy.refl _ _))
  | some ad =>
    refine wpList_append_own w hgd s x 37 ho base 5 i0 (.int .u8 0) 1 1 Tryz.underlying37 hi hz0 hz1 hz2 rfl (by decide) v n xs hs hown ad m c (bcs ys) hx (by rw [bcs_length]; omega) ?_ (bcs_oneCell ys) (by unfold maxLen; omega) (by omega) hbase (fun v' w' h1 h2 _ => h v' w' h1 h2)
    intro j u hj
    have hj' : j < ys.length := by have := (List.getElem?_eq_some_iff.1 hj).1; simpa [bcs_length] using this
    rw [bcs_getElem? ys j hj'] at hj
    obtain ⟨b, o', he, hc⟩ := hr (by omega)
    obtain rfl := Option.some.inj he
    rw [Addr.add_lit, hc j hj']
    exact hj

theorem Rd.head {w : World} {a : Option Addr} {xs ys : List UInt8} (h : Rd w a (xs ++ ys)) : Rd w a xs := fun hp => by
  obtain ⟨b, o, ha, hc⟩ := h (by simp; omega)
  refine ⟨b, o, ha, fun j hj => ?_⟩
  rw [hc j (by simp; omega), List.getElem_append_left hj]

end Go.Proofs.YtnldkpckojhbhaaGreat.Dk


/-
  A disk in plain lists: what its calls do. No program is named here.
-/
namespace Go.Proofs.YtnldkpckojhbhaaGreat.Dk

def putAt {α : Type} (l : List α) (off : Nat) (xs : List α) : List α := l.take off ++ (xs ++ l.drop (off + xs.length))
theorem putAt_length {α : Type} (l : List α) (off : Nat) (xs : List α) (h : off + xs.length ≤ l.length) : (putAt l off xs).length = l.length := by
  simp [putAt]; omega
theorem putAt_get {α : Type} (l : List α) (off : Nat) (xs : List α) (h : off + xs.length ≤ l.length) (i : Nat) : (putAt l off xs)[i]? = if off ≤ i ∧ i < off + xs.length then xs[i - off]? else l[i]? := by
  unfold putAt
  have hlo : (l.take off).length = off := by simp; omega
  by_cases h1 : i < off
  · rw [List.getElem?_append_left (by omega), if_neg (by omega), List.getElem?_take, if_pos h1]
  · rw [List.getElem?_append_right (by omega), hlo]
    by_cases h2 : i < off + xs.length
    · rw [if_pos ⟨by omega, h2⟩, List.getElem?_append_left (by omega)]
    · rw [if_neg (by omega), List.getElem?_append_right (by omega), List.getElem?_drop]
      congr 1
      omega

def bit (m s : Nat) : Bool := m / 2 ^ s % 2 == 1
def sec (data : List UInt8) (s : Nat) : List UInt8 := (data.drop (s * 512)).take 512
theorem sec_length (data : List UInt8) (s : Nat) (hd : data.length = 4096) (hs : s < 8) : (sec data s).length = 512 := by simp [sec]; omega
def carryN (d : List UInt8) (b : Nat) (data : List UInt8) (m : Nat) : Nat → List UInt8
  | 0 => d
  | k + 1 => if bit m k then putAt (carryN d b data m k) (b * 4096 + k * 512) (sec data k) else carryN d b data m k
def carry (d : List UInt8) (b : Nat) (data : List UInt8) (m : Nat) : List UInt8 := carryN d b data m 8

theorem carryN_length (d : List UInt8) (b : Nat) (data : List UInt8) (m : Nat) (hb : b * 4096 + 4096 ≤ d.length) (hd : data.length = 4096) : ∀ k, k ≤ 8 → (carryN d b data m k).length = d.length
  | 0, _ => rfl
  | k + 1, hk => by
    have ih := carryN_length d b data m hb hd k (by omega)
    unfold carryN
    split
    · rw [putAt_length _ _ _ (by rw [ih, sec_length data k hd (by omega)]; omega), ih]
    · exact ih
theorem carry_length (d : List UInt8) (b : Nat) (data : List UInt8) (m : Nat) (hb : b * 4096 + 4096 ≤ d.length) (hd : data.length = 4096) : (carry d b data m).length = d.length := carryN_length d b data m hb hd 8 (by omega)

theorem carryN_get (d : List UInt8) (b : Nat) (data : List UInt8) (m : Nat) (hb : b * 4096 + 4096 ≤ d.length) (hd : data.length = 4096) (i : Nat) : ∀ k, k ≤ 8 →
    (carryN d b data m k)[i]? = if b * 4096 ≤ i ∧ i < b * 4096 + k * 512 ∧ bit m ((i - b * 4096) / 512) = true then data[i - b * 4096]? else d[i]?
  | 0, _ => by
    unfold carryN
    rw [if_neg (by omega)]
  | k + 1, hk => by
    have ih := carryN_get d b data m hb hd i k (by omega)
    have hl := carryN_length d b data m hb hd k (by omega)
    have hs := sec_length data k hd (by omega)
    unfold carryN
    by_cases hin : b * 4096 + k * 512 ≤ i ∧ i < b * 4096 + k * 512 + 512
    · have c1 : b * 4096 ≤ i := Nat.le_trans (Nat.le_add_right (b * 4096) (k * 512)) hin.1
      have hq : (i - b * 4096) / 512 = k := by omega
      have c2 : i < b * 4096 + (k + 1) * 512 := by omega
      have c4 : b * 4096 + k * 512 + 512 ≤ d.length := by clear hq c2 ih hl hs hd hin c1; omega
      have c5 : i - (b * 4096 + k * 512) < 512 := by omega
      have c6 : k * 512 + (i - (b * 4096 + k * 512)) = i - b * 4096 := by omega
      have c7 : ¬ i < b * 4096 + k * 512 := by omega
      split
      · rename_i hbit
        have c3 : bit m ((i - b * 4096) / 512) = true := by rw [hq]; exact hbit
        have hcond : b * 4096 ≤ i ∧ i < b * 4096 + (k + 1) * 512 ∧ bit m ((i - b * 4096) / 512) = true := ⟨c1, c2, c3⟩
        rw [putAt_get _ _ _ (by rw [hl, hs]; exact c4), hs, if_pos hin, if_pos hcond]
        unfold sec
        rw [List.getElem?_take, if_pos c5, List.getElem?_drop, c6]
      · rename_i hbit
        rw [ih, if_neg (fun h => c7 h.2.1), if_neg (by rw [hq]; rintro ⟨_, _, h⟩; exact hbit h)]
    · have e : (if b * 4096 ≤ i ∧ i < b * 4096 + k * 512 ∧ bit m ((i - b * 4096) / 512) = true then data[i - b * 4096]? else d[i]?) = (if b * 4096 ≤ i ∧ i < b * 4096 + (k + 1) * 512 ∧ bit m ((i - b * 4096) / 512) = true then data[i - b * 4096]? else d[i]?) := by
        by_cases h1 : b * 4096 ≤ i ∧ i < b * 4096 + k * 512
        · by_cases hbt : bit m ((i - b * 4096) / 512) = true
          · rw [if_pos ⟨h1.1, h1.2, hbt⟩, if_pos ⟨h1.1, by omega, hbt⟩]
          · rw [if_neg (fun h => hbt h.2.2), if_neg (fun h => hbt h.2.2)]
        · rw [if_neg (fun h => h1 ⟨h.1, h.2.1⟩), if_neg (fun h => by have h2 := h.1; have h3 := h.2.1; omega)]
      split
      · rw [putAt_get _ _ _ (by rw [hl, hs]; omega), hs, if_neg (by omega), ih, e]
      · rw [ih, e]
theorem carry_get (d : List UInt8) (b : Nat) (data : List UInt8) (m : Nat) (hb : b * 4096 + 4096 ≤ d.length) (hd : data.length = 4096) (i : Nat) :
    (carry d b data m)[i]? = if b * 4096 ≤ i ∧ i < b * 4096 + 4096 ∧ bit m ((i - b * 4096) / 512) = true then data[i - b * 4096]? else d[i]? := carryN_get d b data m hb hd i 8 (by omega)

def blk (d : List UInt8) (n : Nat) : List UInt8 := (d.drop (n * 4096)).take 4096
theorem blk_get (d : List UInt8) (n i : Nat) : (blk d n)[i]? = if i < 4096 then d[n * 4096 + i]? else none := by
  unfold blk
  rw [List.getElem?_take]
  split
  · rw [List.getElem?_drop]
  · rfl
theorem blk_length (d : List UInt8) (n : Nat) (h : n * 4096 + 4096 ≤ d.length) : (blk d n).length = 4096 := by simp [blk]; omega

theorem bit_all (s : Nat) (h : s < 8) : bit 255 s = true := by
  match s, h with
  | 0, _ => rfl
  | 1, _ => rfl
  | 2, _ => rfl
  | 3, _ => rfl
  | 4, _ => rfl
  | 5, _ => rfl
  | 6, _ => rfl
  | 7, _ => rfl

structure Fuse where
  set : Bool
  left : Nat
deriving DecidableEq, Inhabited
def Fuse.then (f : Fuse) : Fuse := if f.set then (if 0 < f.left then ⟨true, f.left - 1⟩ else ⟨false, 0⟩) else f
def Fuse.stops (f : Fuse) : Bool := f.set && decide (f.left = 0)

structure DS where
  nb : Nat
  dur : List UInt8
  uf : List (Nat × List UInt8)
  n : Nat
  gone : Bool
  arm : Fuse
  fail : Fuse

def DS.oper (D : DS) : DS := if D.gone then D else { D with gone := D.arm.stops, arm := D.arm.then, fail := D.fail.then }
def DS.operE (D : DS) : Nat := if D.gone then 6 else if D.arm.stops then 6 else if D.fail.stops then 4 else 0

def carryTo (uf : List (Nat × List UInt8)) (d : List UInt8) : Nat → List UInt8
  | 0 => d
  | k + 1 => match uf[k]? with
    | some w => carry (carryTo uf d k) w.1 w.2 255
    | none => carryTo uf d k
def keeps (keep : List Bool) (k : Nat) : Bool := keep[k]?.getD false
def crashTo (keep : List Bool) (torn : Int) (m : Nat) (uf : List (Nat × List UInt8)) (d : List UInt8) : Nat → List UInt8
  | 0 => d
  | k + 1 => match uf[k]? with
    | some w => if (k : Int) = torn then carry (crashTo keep torn m uf d k) w.1 w.2 m else if keeps keep k then carry (crashTo keep torn m uf d k) w.1 w.2 255 else crashTo keep torn m uf d k
    | none => crashTo keep torn m uf d k
def lastOf (uf : List (Nat × List UInt8)) (n : Nat) : Nat → Option (List UInt8)
  | 0 => none
  | k + 1 => match uf[k]? with
    | some w => if w.1 = n then some w.2 else lastOf uf n k
    | none => lastOf uf n k
def DS.stand (D : DS) (n : Nat) : List UInt8 := (lastOf D.uf n D.uf.length).getD (blk D.dur n)
def DS.image (D : DS) : List UInt8 := carryTo D.uf D.dur D.uf.length
def DS.crash (D : DS) (keep : List Bool) (torn : Int) (m : Nat) : DS := { D with dur := crashTo keep torn m D.uf D.dur D.uf.length, uf := [], gone := false, arm := ⟨false, 0⟩, fail := ⟨false, 0⟩ }
def DS.flush (D : DS) : DS := if D.operE = 0 then { D.oper with dur := D.image, uf := [] } else D.oper
def DS.has (D : DS) (n : Int) : Bool := decide (0 ≤ n) && decide (n < D.nb)
def DS.write (D : DS) (n : Int) (b : List UInt8) : DS := if D.has n && decide (b.length = 4096) then (if D.operE = 0 then { D.oper with uf := D.uf ++ [(n.toNat, b)], n := D.n + 1 } else D.oper) else D
def DS.writeE (D : DS) (n : Int) (b : List UInt8) : Nat := if D.has n then (if b.length = 4096 then D.operE else 2) else 70
def DS.readE (D : DS) (n : Int) : Nat := if D.has n then (if D.gone then 6 else 0) else 70
def DS.new (nb : Nat) (d : List UInt8) : DS := ⟨nb, d, [], 0, false, ⟨false, 0⟩, ⟨false, 0⟩⟩
structure DS.Ok (D : DS) : Prop where
  len : D.dur.length = D.nb * 4096
  lo : 1 ≤ D.nb
  hi : D.nb ≤ 512
  each : ∀ p ∈ D.uf, p.1 < D.nb ∧ p.2.length = 4096
  arm : D.arm.left < 9223372036854775808
  fail : D.fail.left < 9223372036854775808

theorem DS.Ok.at {D : DS} (h : D.Ok) (k : Nat) (hk : k < D.uf.length) : D.uf[k].1 < D.nb ∧ D.uf[k].2.length = 4096 := h.each _ (List.getElem_mem hk)
theorem DS.Ok.room {D : DS} (h : D.Ok) {n : Nat} (hn : n < D.nb) : n * 4096 + 4096 ≤ D.dur.length := by rw [h.len]; omega

theorem carryTo_length (D : DS) (h : D.Ok) (d : List UInt8) (hd : d.length = D.dur.length) : ∀ k, (carryTo D.uf d k).length = d.length
  | 0 => rfl
  | k + 1 => by
    have ih := carryTo_length D h d hd k
    unfold carryTo
    cases e : D.uf[k]? with
    | none => exact ih
    | some w =>
      obtain ⟨hk, rfl⟩ := List.getElem?_eq_some_iff.1 e
      obtain ⟨h1, h2⟩ := h.at k hk
      show (carry _ _ _ _).length = _
      rw [carry_length _ _ _ _ (by rw [ih, hd]; exact h.room h1) h2, ih]
theorem crashTo_length (D : DS) (h : D.Ok) (keep : List Bool) (torn : Int) (m : Nat) : ∀ k, (crashTo keep torn m D.uf D.dur k).length = D.dur.length
  | 0 => rfl
  | k + 1 => by
    have ih := crashTo_length D h keep torn m k
    unfold crashTo
    cases e : D.uf[k]? with
    | none => exact ih
    | some w =>
      obtain ⟨hk, rfl⟩ := List.getElem?_eq_some_iff.1 e
      obtain ⟨h1, h2⟩ := h.at k hk
      show (if _ then carry _ _ _ _ else if _ then carry _ _ _ _ else _).length = _
      split
      · rw [carry_length _ _ _ _ (by rw [ih]; exact h.room h1) h2, ih]
      · split
        · rw [carry_length _ _ _ _ (by rw [ih]; exact h.room h1) h2, ih]
        · exact ih
theorem carryTo_succ (uf : List (Nat × List UInt8)) (d : List UInt8) (k : Nat) (hk : k < uf.length) : carryTo uf d (k + 1) = carry (carryTo uf d k) uf[k].1 uf[k].2 255 := by
  rw [carryTo, List.getElem?_eq_getElem hk]
theorem crashTo_succ (keep : List Bool) (torn : Int) (m : Nat) (uf : List (Nat × List UInt8)) (d : List UInt8) (k : Nat) (hk : k < uf.length) : crashTo keep torn m uf d (k + 1) = if (k : Int) = torn then carry (crashTo keep torn m uf d k) uf[k].1 uf[k].2 m else if keeps keep k then carry (crashTo keep torn m uf d k) uf[k].1 uf[k].2 255 else crashTo keep torn m uf d k := by
  rw [crashTo, List.getElem?_eq_getElem hk]
theorem lastOf_succ (uf : List (Nat × List UInt8)) (n k : Nat) (hk : k < uf.length) : lastOf uf n (k + 1) = if uf[k].1 = n then some uf[k].2 else lastOf uf n k := by
  rw [lastOf, List.getElem?_eq_getElem hk]

theorem Fuse.then_lt (f : Fuse) (h : f.left < 9223372036854775808) : f.then.left < 9223372036854775808 := by
  unfold Fuse.then
  split
  · split
    · show f.left - 1 < _; omega
    · show 0 < _; omega
  · exact h
theorem DS.Ok.oper {D : DS} (h : D.Ok) : D.oper.Ok := by
  unfold DS.oper
  split
  · exact h
  · exact ⟨h.len, h.lo, h.hi, h.each, Fuse.then_lt _ h.arm, Fuse.then_lt _ h.fail⟩
theorem DS.oper_nb (D : DS) : D.oper.nb = D.nb := by unfold DS.oper; split <;> rfl
theorem DS.oper_dur (D : DS) : D.oper.dur = D.dur := by unfold DS.oper; split <;> rfl
theorem DS.oper_uf (D : DS) : D.oper.uf = D.uf := by unfold DS.oper; split <;> rfl
theorem DS.oper_n (D : DS) : D.oper.n = D.n := by unfold DS.oper; split <;> rfl
theorem DS.Ok.flush {D : DS} (h : D.Ok) : D.flush.Ok := by
  unfold DS.flush
  split
  · have ho := h.oper
    refine ⟨?_, ho.lo, ho.hi, by simp, ho.arm, ho.fail⟩
    show (carryTo _ _ _).length = _
    rw [carryTo_length D h D.dur rfl, h.len, DS.oper_nb]
  · exact h.oper
theorem DS.Ok.crash {D : DS} (h : D.Ok) (keep : List Bool) (torn : Int) (m : Nat) : (D.crash keep torn m).Ok :=
  ⟨by show (crashTo _ _ _ _ _ _).length = _; rw [crashTo_length D h, h.len]; rfl, h.lo, h.hi, by simp [DS.crash], by simp [DS.crash], by simp [DS.crash]⟩
theorem DS.Ok.write {D : DS} (h : D.Ok) (n : Int) (b : List UInt8) : (D.write n b).Ok := by
  unfold DS.write
  split
  · rename_i hc
    simp only [DS.has, Bool.and_eq_true, decide_eq_true_eq] at hc
    split
    · have ho := h.oper
      refine ⟨ho.len, ho.lo, ho.hi, ?_, ho.arm, ho.fail⟩
      intro p hp
      show p.1 < D.oper.nb ∧ _
      rw [DS.oper_nb]
      rcases List.mem_append.1 hp with hp | hp
      · exact h.each p hp
      · simp at hp
        subst hp
        exact ⟨by omega, hc.2⟩
    · exact h.oper
  · exact h
theorem DS.Ok.new {nb : Nat} {d : List UInt8} (h : d.length = nb * 4096) (h1 : 1 ≤ nb) (h2 : nb ≤ 512) : (DS.new nb d).Ok := ⟨h, h1, h2, by simp [DS.new], by simp [DS.new], by simp [DS.new]⟩
end Go.Proofs.YtnldkpckojhbhaaGreat.Dk

/-
  A disk in memory: which blocks are its own, what they hold, and what of the world a call on it may turn.
-/
namespace Go.Proofs.YtnldkpckojhbhaaGreat.Dk
open Go.RowKit

def Box (w : World) (g : Nat) (cs : Array Value) (t : TypeId) : Prop := w.heap[g]? = some (.cells cs t (0, 0))
theorem Box.cell {w : World} {g : Nat} {cs : Array Value} {t : TypeId} (h : Box w g cs t) (j : Nat) : w.cell? ⟨g, j, none⟩ = cs[j]? := cell_of_row w g j cs t (0, 0) h
theorem Box.frozen {w : World} {g : Nat} {cs : Array Value} {t : TypeId} (h : Box w g cs t) (j : Nat) : w.frozen? ⟨g, j, none⟩ = false := frozen_of_row w g j cs t h
theorem Box.lt {w : World} {g : Nat} {cs : Array Value} {t : TypeId} (h : Box w g cs t) : g < w.heap.size := (Array.getElem?_eq_some_iff.1 h).1
theorem Box.below {w w' : World} {g : Nat} {cs : Array Value} {t : TypeId} (h : Box w g cs t) (hb : Below w.heap.size w w') : Box w' g cs t := (hb.block g h.lt).trans h
theorem Box.new (w : World) (cs : Array Value) (t : TypeId) : Box (w.alloc (.cells cs t)) w.heap.size cs t := heap_alloc_new w _
theorem Box.alloc {w : World} {g : Nat} {cs : Array Value} {t : TypeId} (h : Box w g cs t) (o : Obj) : Box (w.alloc o) g cs t := (Below.heap_alloc w o g h.lt).trans h
theorem Box.store {w : World} {g : Nat} {cs : Array Value} {t : TypeId} (h : Box w g cs t) (j : Nat) (v : Value) : Box (w.setCell ⟨g, j, none⟩ v) g (cs.setIfInBounds j v) t := heap_setCell_same w g j cs t v h
theorem Box.ne {w : World} {g g' : Nat} {cs cs' : Array Value} {t t' : TypeId} (h : Box w g cs t) (h' : Box w g' cs' t') (ht : t ≠ t') : g ≠ g' := by
  intro e
  subst e
  unfold Box at h h'
  rw [h] at h'
  simp at h'
  exact ht h'.2

def RowB (w : World) (g cap : Nat) (ys : List UInt8) : Prop := ∃ cur : Array Value, Box w g cur 5 ∧ ys.length ≤ cap ∧ cap ≤ maxLen ∧ cur.size = cap ∧ cur.toList.take ys.length = bcs ys
theorem RowB.lt {w : World} {g cap : Nat} {ys : List UInt8} (h : RowB w g cap ys) : g < w.heap.size := by obtain ⟨cur, h, _⟩ := h; exact h.lt
theorem RowB.rd {w : World} {g cap : Nat} {ys : List UInt8} (h : RowB w g cap ys) : Rd w (some ⟨g, 0, none⟩) ys := by
  obtain ⟨cur, h, _, _, _, ht⟩ := h
  intro _
  refine ⟨g, 0, rfl, fun j hj => ?_⟩
  rw [Nat.zero_add, h.cell j]
  have h1 := bcs_getElem? ys j hj
  rw [← ht, List.getElem?_take] at h1
  rw [if_pos hj] at h1
  simpa using h1
theorem RowB.same {w w' : World} {g cap : Nat} {ys : List UInt8} (h : RowB w g cap ys) (hb : w'.heap[g]? = w.heap[g]?) : RowB w' g cap ys := by
  obtain ⟨cur, h, r⟩ := h
  exact ⟨cur, hb.trans h, r⟩
theorem RowB.own {w : World} {g : Nat} {ys : List UInt8} (h : Own w g ys) (hm : ys.length ≤ maxLen) : RowB w g ys.length ys :=
  ⟨(bcs ys).toArray, h, Nat.le_refl _, hm, by simp [bcs_length], by rw [List.take_of_length_le (by simp [bcs_length])]⟩
theorem RowB.owns {w : World} {B n : Nat} {v : Value} {ys : List UInt8} (h : w.ownsRow B 5 1 v n (bcs ys)) (h0 : 0 < n) : ∃ g cap, v = .slice (some ⟨g, 0, none⟩) n cap ∧ B ≤ g ∧ RowB w g cap ys := by
  have hl : ys.length = n := by have := h.1; rw [bcs_length] at this; omega
  rcases h.2 with ⟨rfl, rfl⟩ | ⟨g, cap, cur, rfl, hb, hg, hnc, hcm, hcs, ht⟩
  · omega
  · exact ⟨g, cap, rfl, hb, cur, hg, by omega, hcm, by omega, by rw [hl]; simpa using ht⟩

theorem copy_row (g cap off dLen dCap : Nat) (a : Option Addr) (sCap : Nat) (xs ys : List UInt8) (u : World) (hg : RowB u g cap ys) (hr : Rd u a xs) (hl : xs.length ≤ dLen) (hfit : off + xs.length ≤ ys.length) (h0 : 0 < xs.length) :
    ∃ W, (∀ ty, (Builtin.copy_ #[37, 37] ty #[.slice (some ⟨g, off, none⟩) dLen dCap, .slice a xs.length sCap]).run Tryz.prog u = .ok (goInt xs.length) W) ∧ RowB W g cap (putAt ys off xs) ∧ u.grownBy W (some g) := by
  obtain ⟨b, o, rfl, hc⟩ := hr h0
  obtain ⟨cur, hb, hlc, hm, hs, ht⟩ := hg
  refine ⟨u.setRow g (cur.toList.take off ++ bcs xs ++ cur.toList.drop (off + (bcs xs).length)).toArray, fun ty => ?_, ?_, grown_setRow _ _ _⟩
  · have h := run_copy_row (P := Tryz.prog) u 37 37 ty 5 g off dLen dCap ⟨b, o, none⟩ xs.length sCap cur 5 (bcs xs) Tryz.underlying37 size5 hb (by rw [bcs_length]; exact (Nat.min_eq_left hl).symm) (fun j v hj => by
        have hj' : j < xs.length := by have := (List.getElem?_eq_some_iff.1 hj).1; simpa [bcs_length] using this
        rw [bcs_getElem? xs j hj'] at hj
        rw [Addr.add_lit, hc j hj']
        exact hj) (by rw [bcs_length]; omega) (bcs_oneCell xs)
    rw [h, bcs_length]
  · have hpl := putAt_length ys off xs hfit
    refine ⟨_, setRow_heap u g _ _ 5 _ hb, by omega, hm, ?_, ?_⟩
    · simp [bcs_length]; omega
    · rw [hpl]
      have e1 : cur.toList.take off = bcs (ys.take off) := by
        have := congrArg (List.take off) ht
        rw [List.take_take, Nat.min_eq_left (by omega)] at this
        rw [this]; simp [bcs]
      have e2 : (cur.toList.drop (off + xs.length)).take (ys.length - (off + xs.length)) = bcs (ys.drop (off + xs.length)) := by
        have := congrArg (List.drop (off + xs.length)) ht
        rw [List.drop_take] at this
        rw [this]; simp [bcs]
      have hlt : (cur.toList.take off).length = off := by simp; omega
      have e3 : bcs (putAt ys off xs) = bcs (ys.take off) ++ (bcs xs ++ bcs (ys.drop (off + xs.length))) := by simp [putAt, bcs]
      show (cur.toList.take off ++ bcs xs ++ cur.toList.drop (off + (bcs xs).length)).take ys.length = _
      have e4 : (bcs xs).take (ys.length - off) = bcs xs := List.take_of_length_le (by rw [bcs_length]; omega)
      rw [e3, ← e1, ← e2]
      generalize hA : cur.toList.take off = A at hlt
      have e5 : A.take ys.length = A := List.take_of_length_le (by omega)
      rw [List.append_assoc, List.take_append, List.take_append, e5, hlt, e4, bcs_length, Nat.sub_sub]

structure Upd (F : Nat → Prop) (w w' : World) : Prop where
  os : w'.os = w.os
  tape : w'.tape = w.tape
  output : w'.output = w.output
  size : w.heap.size ≤ w'.heap.size
  block : ∀ k, k < w.heap.size → ¬ F k → w'.heap[k]? = w.heap[k]?
theorem Upd.refl (F : Nat → Prop) (w : World) : Upd F w w := ⟨rfl, rfl, rfl, Nat.le_refl _, fun _ _ _ => rfl⟩
theorem Upd.trans {F F' : Nat → Prop} {a b c : World} (h : Upd F a b) (k : Upd F' b c) (hF : ∀ i, F' i → F i ∨ a.heap.size ≤ i) : Upd F a c :=
  ⟨k.os.trans h.os, k.tape.trans h.tape, k.output.trans h.output, Nat.le_trans h.size k.size, fun i hi hn => (k.block i (Nat.lt_of_lt_of_le hi h.size) (fun hf => by rcases hF i hf with h1 | h1; exact hn h1; omega)).trans (h.block i hi hn)⟩
theorem Upd.of_below {F : Nat → Prop} {w w' : World} (h : Below w.heap.size w w') : Upd F w w' := ⟨h.os, h.tape, h.output, h.size, fun k hk _ => h.block k hk⟩
theorem Upd.grown {F : Nat → Prop} {a w w' : World} {row : Option Nat} (h : Upd F a w) (hg : w.grownBy w' row) (hr : ∀ k, row = some k → F k ∨ a.heap.size ≤ k) : Upd F a w' :=
  ⟨hg.os.trans h.os, hg.tape.trans h.tape, hg.output.trans h.output, Nat.le_trans h.size hg.size, fun i hi hn => (hg.block i (Nat.lt_of_lt_of_le hi h.size) (fun e => by rcases hr i e.symm with h1 | h1; exact hn h1; omega)).trans (h.block i hi hn)⟩
theorem Upd.below {F : Nat → Prop} {w w' : World} {B : Nat} (h : Upd F w w') (hF : ∀ i, F i → B ≤ i) (hB : B ≤ w.heap.size) : Below B w w' :=
  ⟨h.os, h.tape, h.output, h.size, fun k hk => h.block k (by omega) (fun hf => by have := hF k hf; omega)⟩
theorem Upd.alloc {F : Nat → Prop} {a w : World} (h : Upd F a w) (o : Obj) : Upd F a (w.alloc o) := h.grown (World.grownBy_alloc w o none) (fun k e => by cases e)
theorem Upd.setCell {F : Nat → Prop} {a w : World} (h : Upd F a w) {g j : Nat} (hg : F g ∨ a.heap.size ≤ g) (u : Value) : Upd F a (w.setCell ⟨g, j, none⟩ u) := h.grown (grown_store w g j u) (fun k e => by cases e; exact hg)
theorem Upd.drew {F : Nat → Prop} {a w : World} (h : Upd F a w) : Upd F a w.drew := ⟨h.os, h.tape, h.output, h.size, h.block⟩
theorem Upd.thenB {F : Nat → Prop} {a w w' : World} (h : Upd F a w) (k : Below w.heap.size w w') : Upd F a w' := ⟨k.os.trans h.os, k.tape.trans h.tape, k.output.trans h.output, Nat.le_trans h.size k.size, fun i hi hn => (k.block i (Nat.lt_of_lt_of_le hi h.size)).trans (h.block i hi hn)⟩
theorem Rd.upd {F : Nat → Prop} {w w' : World} {g o : Nat} {xs : List UInt8} (h : Rd w (some ⟨g, o, none⟩) xs) (hu : Upd F w w') (hg : ¬ F g) : Rd w' (some ⟨g, o, none⟩) xs := fun hp => by
  obtain ⟨b, o', ha, hc⟩ := h hp
  simp only [Option.some.injEq, Addr.mk.injEq, and_true] at ha
  obtain ⟨rfl, rfl⟩ := ha
  refine ⟨g, o, rfl, fun j hj => ?_⟩
  have hlt : g < w.heap.size := block_lt_of_cell (hc j hj)
  rw [World.cell?_of_block (a := ⟨g, o + j, none⟩) (hu.block g hlt hg)]
  exact hc j hj

def wcs (ps : List (Nat × Nat × Nat)) : List Value := ps.flatMap fun p => [.int .i64 (p.1 : Int), .slice (some ⟨p.2.1, 0, none⟩) 4096 p.2.2]
theorem wcs_snoc (ps : List (Nat × Nat × Nat)) (p : Nat × Nat × Nat) : wcs (ps ++ [p]) = wcs ps ++ [.int .i64 (p.1 : Int), .slice (some ⟨p.2.1, 0, none⟩) 4096 p.2.2] := by simp [wcs]
theorem wcs_at (ps : List (Nat × Nat × Nat)) (j : Nat) (h : j < ps.length) : (wcs ps)[j * 2]? = some (.int .i64 (ps[j].1 : Int)) ∧ (wcs ps)[j * 2 + 1]? = some (.slice (some ⟨ps[j].2.1, 0, none⟩) 4096 ps[j].2.2) := by
  induction ps generalizing j with
  | nil => simp at h
  | cons p l ih =>
    cases j with
    | zero => simp [wcs]
    | succ j =>
      have hj : j < l.length := by simpa using h
      obtain ⟨h0, h1⟩ := ih j hj
      have e : wcs (p :: l) = [.int .i64 (p.1 : Int), .slice (some ⟨p.2.1, 0, none⟩) 4096 p.2.2] ++ wcs l := by simp [wcs]
      rw [e]
      constructor
      · rw [List.getElem?_append_right (by simp; omega)]
        have : (j + 1) * 2 - 2 = j * 2 := by omega
        simpa [this] using h0
      · rw [List.getElem?_append_right (by simp; omega)]
        have : (j + 1) * 2 + 1 - 2 = j * 2 + 1 := by omega
        simpa [this] using h1

def diskC (g : Nat) (vd vu : Value) (D : DS) : Array Value :=
  #[.pointer (some ⟨g, 0, none⟩), vd, vu, .int .i64 (D.n : Int), .bool D.gone, .bool D.arm.set, .int .i64 (D.arm.left : Int), .bool D.fail.set, .int .i64 (D.fail.left : Int)]

structure Lies (w : World) (g : Nat) (D : DS) (F : Nat → Prop) (gd cd : Nat) (vu : Value) (ps : List (Nat × Nat × Nat)) : Prop where
  box : Box w g (diskC g (.slice (some ⟨gd, 0, none⟩) (D.nb * 4096) cd) vu D) 134
  dur : RowB w gd cd D.dur
  row : w.ownsRow 0 136 2 vu D.uf.length (wcs ps)
  len : ps.length = D.uf.length
  each : ∀ k (h : k < ps.length) (h' : k < D.uf.length), ps[k].1 = D.uf[k].1 ∧ RowB w ps[k].2.1 ps[k].2.2 D.uf[k].2 ∧ ps[k].2.1 ≠ gd ∧ F ps[k].2.1
  fg : F g
  fd : F gd
  fu : ∀ k, vu.ownBlock = some k → F k
  flt : ∀ i, F i → i < w.heap.size
  ok : D.Ok
def IsDisk (w : World) (g : Nat) (D : DS) (F : Nat → Prop) : Prop := ∃ gd cd vu ps, Lies w g D F gd cd vu ps

theorem Lies.kept {w w' : World} {g : Nat} {D : DS} {F : Nat → Prop} {gd cd : Nat} {vu : Value} {ps : List (Nat × Nat × Nat)} (h : Lies w g D F gd cd vu ps) (hk : ∀ i, F i → w'.heap[i]? = w.heap[i]?) (hs : w.heap.size ≤ w'.heap.size) : Lies w' g D F gd cd vu ps where
  box := (hk g h.fg).trans h.box
  dur := h.dur.same (hk gd h.fd)
  row := ⟨h.row.1, by
    rcases h.row.2 with h1 | ⟨g', cap, cur, rfl, hb, hg, r⟩
    · exact .inl h1
    · exact .inr ⟨g', cap, cur, rfl, hb, (hk g' (h.fu g' rfl)).trans hg, r⟩⟩
  len := h.len
  each := fun k h1 h2 => by
    obtain ⟨a, b, c, d⟩ := h.each k h1 h2
    exact ⟨a, b.same (hk _ d), c, d⟩
  fg := h.fg
  fd := h.fd
  fu := h.fu
  flt := fun i hi => Nat.lt_of_lt_of_le (h.flt i hi) hs
  ok := h.ok
theorem IsDisk.kept {w w' : World} {g : Nat} {D : DS} {F : Nat → Prop} (h : IsDisk w g D F) (hk : ∀ i, F i → w'.heap[i]? = w.heap[i]?) (hs : w.heap.size ≤ w'.heap.size) : IsDisk w' g D F := by
  obtain ⟨gd, cd, vu, ps, h⟩ := h
  exact ⟨gd, cd, vu, ps, h.kept hk hs⟩
theorem IsDisk.flt {w : World} {g : Nat} {D : DS} {F : Nat → Prop} (h : IsDisk w g D F) : ∀ i, F i → i < w.heap.size := by obtain ⟨gd, cd, vu, ps, h⟩ := h; exact h.flt
theorem IsDisk.ok {w : World} {g : Nat} {D : DS} {F : Nat → Prop} (h : IsDisk w g D F) : D.Ok := by obtain ⟨gd, cd, vu, ps, h⟩ := h; exact h.ok
theorem IsDisk.below {w w' : World} {g : Nat} {D : DS} {F : Nat → Prop} (h : IsDisk w g D F) (hb : Below w.heap.size w w') : IsDisk w' g D F := h.kept (fun i hi => hb.block i (h.flt i hi)) hb.size
theorem Lies.below {w w' : World} {g : Nat} {D : DS} {F : Nat → Prop} {gd cd : Nat} {vu : Value} {ps : List (Nat × Nat × Nat)} (h : Lies w g D F gd cd vu ps) (hb : Below w.heap.size w w') : Lies w' g D F gd cd vu ps := h.kept (fun i hi => hb.block i (h.flt i hi)) hb.size
theorem IsDisk.upd {w w' : World} {g : Nat} {D : DS} {F G : Nat → Prop} (h : IsDisk w g D F) (hb : Upd G w w') (hd : ∀ i, F i → ¬ G i) : IsDisk w' g D F := h.kept (fun i hi => hb.block i (h.flt i hi) (hd i hi)) hb.size
end Go.Proofs.YtnldkpckojhbhaaGreat.Dk

/-
  The small functions of disk.
-/
namespace Go.Proofs.YtnldkpckojhbhaaGreat.Dk
open Go.RowKit

theorem box_cells {w : World} {g : Nat} {vd vu : Value} {D : DS} (h : Box w g (diskC g vd vu D) 134) :
    w.cell? ⟨g, 0, none⟩ = some (.pointer (some ⟨g, 0, none⟩)) ∧ w.cell? ⟨g, 1, none⟩ = some vd ∧ w.cell? ⟨g, 2, none⟩ = some vu ∧ w.cell? ⟨g, 3, none⟩ = some (.int .i64 (D.n : Int)) ∧ w.cell? ⟨g, 4, none⟩ = some (.bool D.gone) ∧ w.cell? ⟨g, 5, none⟩ = some (.bool D.arm.set) ∧ w.cell? ⟨g, 6, none⟩ = some (.int .i64 (D.arm.left : Int)) ∧ w.cell? ⟨g, 7, none⟩ = some (.bool D.fail.set) ∧ w.cell? ⟨g, 8, none⟩ = some (.int .i64 (D.fail.left : Int)) :=
  ⟨h.cell 0, h.cell 1, h.cell 2, h.cell 3, h.cell 4, h.cell 5, h.cell 6, h.cell 7, h.cell 8⟩

theorem info69 : (Tryz.prog.info? 134).map (fun i => (i.zero.isSome, i.size)) = some (true, 9) := by kernel_rfl
theorem point22 : Tryz.prog.underlying 22 = some (.pointer 134) := by kernel_rfl
theorem eqlSelf (g : Nat) (w : World) : (binOp .eql 22 (.pointer (some ⟨g, 0, none⟩)) (.pointer (some ⟨g, 0, none⟩))).run Tryz.prog w = .ok (.bool true) w := by
  cases h : Tryz.prog.info? 134 with
  | none => have := info69; rw [h] at this; cases this
  | some i => exact run_eql_ptr_same w ⟨g, 0, none⟩ point22 h
theorem eqlNone (g : Nat) (w : World) : (binOp .eql 22 (.pointer none) (.pointer (some ⟨g, 0, none⟩))).run Tryz.prog w = .ok (.bool false) w := by
  have h : ∀ d : Nat, (Op.equalIn (d + 1) 22 (.pointer none) (.pointer (some ⟨g, 0, none⟩))).run Tryz.prog w = .ok false w := fun d => by
    simp [Op.equalIn, run_underlying point22]
  simp only [binOp]
  simp [Op.equal, Op.maxDepth, h 9999]

theorem isMade_cell (g : Nat) (w : World) (h : w.cell? ⟨g, 0, none⟩ = some (.pointer (some ⟨g, 0, none⟩))) :
    Calls Tryz.prog 86 #[.pointer (some ⟨g, 0, none⟩)] w fun e w' => e = .returned (.bool true) ∧ w = w' := by
  have he := eqlSelf g
  go_enter Tryz.func86, Tryz.ntmps86
  go_wp2
  go_ret
  exact ⟨rfl, rfl⟩
theorem isMade_at {g : Nat} {w : World} {D : DS} {F : Nat → Prop} {gd cd : Nat} {vu : Value} {ps : List (Nat × Nat × Nat)} (h : Lies w g D F gd cd vu ps) :
    Calls Tryz.prog 86 #[.pointer (some ⟨g, 0, none⟩)] w fun e w' => e = .returned (.bool true) ∧ w = w' := isMade_cell g w (box_cells h.box).1
theorem isMade_none (w : World) : Calls Tryz.prog 86 #[.pointer none] w fun e w' => e = .returned (.bool false) ∧ w = w' := by
  go_enter Tryz.func86, Tryz.ntmps86
  go_wp2
  go_ret
  exact ⟨rfl, rfl⟩
theorem isMade_zero (g : Nat) (w : World) (h : w.cell? ⟨g, 0, none⟩ = some (.pointer none)) :
    Calls Tryz.prog 86 #[.pointer (some ⟨g, 0, none⟩)] w fun e w' => e = .returned (.bool false) ∧ w = w' := by
  have he := eqlNone g
  go_enter Tryz.func86, Tryz.ntmps86
  go_wp2
  go_ret
  exact ⟨rfl, rfl⟩

theorem rightSize_at (n : Int) (w : World) : Calls Tryz.prog 101 #[.int .i64 n] w fun e w' => e = .returned (.bool (decide (1 ≤ n) && decide (n ≤ 512))) ∧ w = w' := by
  by_cases h : 1 ≤ n
  · go_enter Tryz.func101, Tryz.ntmps101
    go_wp2
    go_ret
    simp [h]
  · go_enter Tryz.func101, Tryz.ntmps101
    go_wp2
    go_ret
    simp
    omega

theorem size_at {g : Nat} {w : World} {D : DS} {F : Nat → Prop} {gd cd : Nat} {vu : Value} {ps : List (Nat × Nat × Nat)} (h : Lies w g D F gd cd vu ps) :
    Calls Tryz.prog 88 #[.pointer (some ⟨g, 0, none⟩)] w fun e w' => e = .returned (.int .i64 (D.nb : Int)) ∧ w = w' := by
  obtain ⟨_, h1, _⟩ := box_cells h.box
  have hi := h.ok.hi
  have c := isMade_at h
  go_enter Tryz.func88, Tryz.ntmps88
  go_wp2_with fail
  refine c.mono ?_
  rintro e w' ⟨rfl, rfl⟩
  have e2 : ((D.nb : Int) * 4096) / 4096 = D.nb := by omega
  go_wp2
  go_ret
  exact ⟨by simp, rfl⟩

theorem has_at {g : Nat} {w : World} {D : DS} {F : Nat → Prop} {gd cd : Nat} {vu : Value} {ps : List (Nat × Nat × Nat)} (h : Lies w g D F gd cd vu ps) (n : Int) :
    Calls Tryz.prog 98 #[.pointer (some ⟨g, 0, none⟩), .int .i64 n] w fun e w' => e = .returned (.bool (D.has n)) ∧ w = w' := by
  have c := size_at h
  unfold DS.has
  by_cases h0 : 0 ≤ n
  · go_enter Tryz.func98, Tryz.ntmps98
    go_wp2_with fail
    refine c.mono ?_
    rintro e w' ⟨rfl, rfl⟩
    go_wp2
    go_ret
    simp [h0]
  · go_enter Tryz.func98, Tryz.ntmps98
    go_wp2
    go_ret
    simp
    omega

theorem part_at (g o len cap n size : Nat) (w : World) (hf : n * size + size ≤ cap) (hc : cap ≤ 9223372036854775807) (hs : 0 < size) :
    Calls Tryz.prog 156 #[.slice (some ⟨g, o, none⟩) len cap, .int .i64 n, .int .i64 size] w fun e w' => e = .returned (.slice (some ⟨g, o + n * size, none⟩) size size) ∧ w = w' := by
  obtain ⟨M, hM⟩ : ∃ M, M = n * size := ⟨_, rfl⟩
  have e1 : (n : Int) * (size : Int) = (M : Int) := by rw [hM]; push_cast; rfl
  rw [← hM] at hf ⊢
  clear hM
  have h1 : (M : Int) + size ≤ cap := by omega
  have e2 : M + size - M = size := by omega
  go_enter Tryz.func156, Tryz.ntmps156
  go_wp2
  go_ret
  rw [e2]
  exact ⟨rfl, rfl⟩
end Go.Proofs.YtnldkpckojhbhaaGreat.Dk

/-
  A journal in memory, and the small functions of journal.
-/
namespace Go.Proofs.YtnldkpckojhbhaaGreat.J
open Go.RowKit
open Go.Proofs.YtnldkpckojhbhaaGreat.Dk (Box)

structure JS where
  log : Int
  epoch : Int
  next : Int
  synced : Int
  S : Int
  T : Int
  U : Int
  H : Int
  broken : Bool

def jC (g dg : Nat) (vs : Value) (J : JS) : Array Value :=
  #[.pointer (some ⟨g, 0, none⟩), .pointer (some ⟨dg, 0, none⟩), .int .i64 J.log, .int .i64 J.epoch, .int .i64 J.next, .int .i64 J.synced, .int .i64 J.S, .int .i64 J.T, .int .i64 J.U, .int .i64 J.H, vs, .bool J.broken]

theorem box_cells {w : World} {g dg : Nat} {vs : Value} {J : JS} (h : Box w g (jC g dg vs J) 201) :
    w.cell? ⟨g, 0, none⟩ = some (.pointer (some ⟨g, 0, none⟩)) ∧ w.cell? ⟨g, 1, none⟩ = some (.pointer (some ⟨dg, 0, none⟩)) ∧ w.cell? ⟨g, 2, none⟩ = some (.int .i64 J.log) ∧ w.cell? ⟨g, 3, none⟩ = some (.int .i64 J.epoch) ∧ w.cell? ⟨g, 4, none⟩ = some (.int .i64 J.next) ∧ w.cell? ⟨g, 5, none⟩ = some (.int .i64 J.synced) ∧ w.cell? ⟨g, 6, none⟩ = some (.int .i64 J.S) ∧ w.cell? ⟨g, 7, none⟩ = some (.int .i64 J.T) ∧ w.cell? ⟨g, 8, none⟩ = some (.int .i64 J.U) ∧ w.cell? ⟨g, 9, none⟩ = some (.int .i64 J.H) ∧ w.cell? ⟨g, 10, none⟩ = some vs ∧ w.cell? ⟨g, 11, none⟩ = some (.bool J.broken) :=
  ⟨h.cell 0, h.cell 1, h.cell 2, h.cell 3, h.cell 4, h.cell 5, h.cell 6, h.cell 7, h.cell 8, h.cell 9, h.cell 10, h.cell 11⟩

theorem info47 : (Tryz.prog.info? 201).map (fun i => (i.zero.isSome, i.size)) = some (true, 12) := by kernel_rfl
theorem point23 : Tryz.prog.underlying 77 = some (.pointer 201) := by kernel_rfl
theorem eqlSelf (g : Nat) (w : World) : (binOp .eql 77 (.pointer (some ⟨g, 0, none⟩)) (.pointer (some ⟨g, 0, none⟩))).run Tryz.prog w = .ok (.bool true) w := by
  cases h : Tryz.prog.info? 201 with
  | none => have := info47; rw [h] at this; cases this
  | some i => exact run_eql_ptr_same w ⟨g, 0, none⟩ point23 h
theorem eqlNone (g : Nat) (w : World) : (binOp .eql 77 (.pointer none) (.pointer (some ⟨g, 0, none⟩))).run Tryz.prog w = .ok (.bool false) w := by
  have h : ∀ d : Nat, (Op.equalIn (d + 1) 77 (.pointer none) (.pointer (some ⟨g, 0, none⟩))).run Tryz.prog w = .ok false w := fun d => by
    simp [Op.equalIn, run_underlying point23]
  simp only [binOp]
  simp [Op.equal, Op.maxDepth, h 9999]

theorem isMade_cell (g : Nat) (w : World) (h : w.cell? ⟨g, 0, none⟩ = some (.pointer (some ⟨g, 0, none⟩))) :
    Calls Tryz.prog 166 #[.pointer (some ⟨g, 0, none⟩)] w fun e w' => e = .returned (.bool true) ∧ w = w' := by
  have he := eqlSelf g
  go_enter Tryz.func166, Tryz.ntmps166
  go_wp2
  go_ret
  exact ⟨rfl, rfl⟩
theorem isMade_none (w : World) : Calls Tryz.prog 166 #[.pointer none] w fun e w' => e = .returned (.bool false) ∧ w = w' := by
  go_enter Tryz.func166, Tryz.ntmps166
  go_wp2
  go_ret
  exact ⟨rfl, rfl⟩
theorem isMade_zero (g : Nat) (w : World) (h : w.cell? ⟨g, 0, none⟩ = some (.pointer none)) :
    Calls Tryz.prog 166 #[.pointer (some ⟨g, 0, none⟩)] w fun e w' => e = .returned (.bool false) ∧ w = w' := by
  have he := eqlNone g
  go_enter Tryz.func166, Tryz.ntmps166
  go_wp2
  go_ret
  exact ⟨rfl, rfl⟩

theorem within_at (n a b : Int) (w : World) :
    Calls Tryz.prog 165 #[.int .i64 n, .int .i64 a, .int .i64 b] w fun r w' => r = .returned (.bool (decide (a ≤ n ∧ n ≤ b))) ∧ w = w' := by
  by_cases h1 : a ≤ n
  · by_cases h2 : n ≤ b
    · rw [decide_eq_true ⟨h1, h2⟩]
      go_enter Tryz.func165, Tryz.ntmps165
      go_wp2
      go_ret
      exact ⟨rfl, rfl⟩
    · rw [decide_eq_false (fun h => h2 h.2)]
      go_enter Tryz.func165, Tryz.ntmps165
      go_wp2
      go_ret
      exact ⟨rfl, rfl⟩
  · rw [decide_eq_false (fun h => h1 h.1)]
    go_enter Tryz.func165, Tryz.ntmps165
    go_wp2
    go_ret
    exact ⟨rfl, rfl⟩

theorem fits_at {w : World} {g dg : Nat} {vs : Value} {J : JS} (h : Box w g (jC g dg vs J) 201) (n : Int) :
    Calls Tryz.prog 151 #[.pointer (some ⟨g, 0, none⟩), .int .i64 n] w fun r w' => r = .returned (.int .i64 (if J.S < n then 232 else 0)) ∧ w = w' := by
  have c6 := (box_cells h).2.2.2.2.2.2.1
  by_cases hn : J.S < n
  · rw [if_pos hn]
    go_enter Tryz.func151, Tryz.ntmps151
    go_wp2
    go_ret
    exact ⟨rfl, rfl⟩
  · rw [if_neg hn]
    go_enter Tryz.func151, Tryz.ntmps151
    go_wp2
    go_ret
    exact ⟨rfl, rfl⟩

theorem asked_ok (g : Nat) (w : World) :
    Calls Tryz.prog 155 #[.pointer (some ⟨g, 0, none⟩), .int .i64 0] w fun r w' => r = .returned (.int .i64 0) ∧ w = w' := by
  go_enter Tryz.func155, Tryz.ntmps155
  go_wp2
  go_ret
  exact ⟨rfl, rfl⟩

end Go.Proofs.YtnldkpckojhbhaaGreat.J

/-
  The calls on a journal that Open did not answer: none, or one of noughts.
-/
namespace Go.Proofs.YtnldkpckojhbhaaGreat.J
open Go.RowKit

def NotMade (w : World) (v : Value) : Prop := v = .pointer none ∨ ∃ g, v = .pointer (some ⟨g, 0, none⟩) ∧ w.cell? ⟨g, 0, none⟩ = some (.pointer none) ∧ g < w.heap.size
theorem NotMade.below {w w' : World} {v : Value} (h : NotMade w v) (b : Below w.heap.size w w') : NotMade w' v := by
  rcases h with rfl | ⟨g, rfl, h, hg⟩
  · exact .inl rfl
  · exact .inr ⟨g, rfl, (b.cell hg).trans h, Nat.lt_of_lt_of_le hg b.size⟩
theorem isMade_no {w : World} {v : Value} (h : NotMade w v) : Calls Tryz.prog 166 #[v] w fun r w' => r = .returned (.bool false) ∧ w = w' := by
  rcases h with rfl | ⟨g, rfl, h, _⟩
  · exact isMade_none w
  · exact isMade_zero g w h
end Go.Proofs.YtnldkpckojhbhaaGreat.J

/-
  Reserve and Cancel on a journal that Open did not answer; what a journal tells.
-/
namespace Go.Proofs.YtnldkpckojhbhaaGreat.J
open Go.RowKit
open Go.Proofs.YtnldkpckojhbhaaGreat.Dk (Box)

theorem next_at {w : World} {g dg : Nat} {vs : Value} {J : JS} (h : Box w g (jC g dg vs J) 201) :
    Calls Tryz.prog 94 #[.pointer (some ⟨g, 0, none⟩)] w fun r w' => r = .returned (.int .i64 J.next) ∧ w = w' := by
  obtain ⟨c0, _, _, _, c4, _, _, _, _, _, _, _⟩ := box_cells h
  go_enter Tryz.func94, Tryz.ntmps94
  go_wp2_with fail
  refine (isMade_cell g w c0).mono ?_
  rintro r w1 ⟨rfl, rfl⟩
  go_wp2_with fail
  go_ret
  exact ⟨rfl, rfl⟩
theorem synced_at {w : World} {g dg : Nat} {vs : Value} {J : JS} (h : Box w g (jC g dg vs J) 201) :
    Calls Tryz.prog 95 #[.pointer (some ⟨g, 0, none⟩)] w fun r w' => r = .returned (.int .i64 J.synced) ∧ w = w' := by
  obtain ⟨c0, _, _, _, _, c5, _, _, _, _, _, _⟩ := box_cells h
  go_enter Tryz.func95, Tryz.ntmps95
  go_wp2_with fail
  refine (isMade_cell g w c0).mono ?_
  rintro r w1 ⟨rfl, rfl⟩
  go_wp2_with fail
  go_ret
  exact ⟨rfl, rfl⟩
theorem ring_at {w : World} {g dg : Nat} {vs : Value} {J : JS} (h : Box w g (jC g dg vs J) 201) :
    Calls Tryz.prog 139 #[.pointer (some ⟨g, 0, none⟩)] w fun r w' => r = .returned (.agg #[.int .i64 J.S, .int .i64 J.T, .int .i64 J.U, .int .i64 J.H]) ∧ Below w.heap.size w w' := by
  have B := (Below.refl w.heap.size w).alloc (Nat.le_refl _) (.cells #[.int .i64 0, .int .i64 0, .int .i64 0, .int .i64 0] 59)
  have h' := h.below B
  obtain ⟨c0, _, _, _, _, _, c6, c7, c8, c9, _, _⟩ := box_cells h'
  go_enter Tryz.func139, Tryz.ntmps139
  go_wp2_with fail
  refine (isMade_cell g _ c0).mono ?_
  rintro r w1 ⟨rfl, rfl⟩
  go_wp2_with fail
  exact bodyPost_ret (v := .agg #[.int .i64 J.S, .int .i64 J.T, .int .i64 J.U, .int .i64 J.H]) (by simp [results, Tryz.results139, go_sem]) rfl ⟨rfl, (Below.refl w.heap.size w).alloc (Nat.le_refl _) _⟩
theorem below_drewN {B : Nat} {a w : World} (h : Below B a w) (n : Nat) : Below B a (w.drewN n) := ⟨h.os, h.tape, h.output, h.size, h.block⟩
end Go.Proofs.YtnldkpckojhbhaaGreat.J

/-
  A region that draws its order and holds loads beside calls that make memory: a load whose value is one in a whole class of frames and worlds may be taken first, if each step stays in the class.
-/
namespace Go.Proofs.YtnldkpckojhbhaaGreat.Dk

section
variable {P : Program} {ops : Array Oper} {Q : Exit → Act → World → Prop} {md : Region.Mode} {C : Act → World → Prop}

def wpAnyC (P : Program) (md : Region.Mode) (ops : Array Oper) (Q : Exit → Act → World → Prop) (C : Act → World → Prop) : Nat → Array Bool → Act → World → Prop
  | 0, listed, a, w => Region.ready md ops listed = [] ∧ Q .normal a w
  | fuel + 1, listed, a, w => (Region.ready md ops listed = [] → Q .normal a w) ∧
    ∀ i ∈ Region.ready md ops listed, wpOp P ops Q i (fun a' w' => C a' w' ∧ wpAnyC P md ops Q C fuel (listed.setIfInBounds i true) a' w') a w

theorem wpAny_of_class : ∀ (fuel : Nat) (listed : Array Bool) (a : Act) (w : World), wpAnyC P md ops Q C fuel listed a w → wpAny P md ops Q fuel listed a w
  | 0, _, _, _, h => h
  | fuel + 1, _, _, _, h => ⟨h.1, fun i hi => wpOp_mono (fun a' w' h' => wpAny_of_class fuel _ a' w' h'.2) (h.2 i hi)⟩

def Gives (P : Program) (ops : Array Oper) (C : Act → World → Prop) (o : Oper) (v : Value) : Prop :=
  ∀ a w, C a w → Region.wanted o (yielded ops a.tmps) = true ∧ (execOp a.eval o).run P w = .ok (.value v) w

theorem Gives.wpOp {i : Nat} {o : Oper} {v : Value} {a : Act} {w : World} (hi : ops[i]? = some o) (hg : Gives P ops C o v) (hc : C a w) {K : Act → World → Prop} (h : K (a.put o.dst v) w) : wpOp P ops Q i K a w := by
  obtain ⟨h1, h2⟩ := hg a w hc
  unfold Go.wpOp
  simp only [hi, h1, if_true, Oper.wp, h2, Oper.upon]
  exact .inl h

def standIn (o : Oper) (v : Value) : Oper := { o with op := .move (.const v), guard := none }
theorem standIn_yields (o : Oper) (v : Value) (a : Act) : Yields P ops (standIn o v) v a := by
  refine .inl ⟨rfl, fun w => ?_⟩
  rfl
theorem standIn_apart {o y : Oper} {v : Value} (h : o.apart ops y = true) : (standIn o v).apart ops y = true := by
  unfold Oper.apart at h ⊢
  simp only [Bool.and_eq_true] at h ⊢
  refine ⟨h.1, ?_⟩
  have e : (standIn o v).looksAt ops = [] := rfl
  rw [e]
  cases y.dst <;> rfl

theorem wpAnyC_first {i : Nat} {oi : Oper} {v : Value} (hi : ops[i]? = some oi) (hs : Region.noSelect ops = true)
    (hQ : ∀ c a w, Q (.panic c) (a.put oi.dst v) w → Q (.panic c) a w) (hg : Gives P ops C oi v) (hdn : ∀ a w, C (a.put oi.dst v) w → C a w) (hup : ∀ a w, C a w → C (a.put oi.dst v) w) :
    ∀ (fuel : Nat) (listed : Array Bool) (a : Act) (w : World),
      (∀ j oj, ops[j]? = some oj → j ≠ i → listed.getD j true = false → (∀ e ∈ oj.after, Region.binds md e = true → e.on ≠ i) → oi.apart ops oj = true) →
      i ∈ Region.ready md ops listed → C a w →
      wpAnyC P md ops Q C fuel (listed.setIfInBounds i true) (a.put oi.dst v) w → wpAnyC P md ops Q C (fuel + 1) listed a w
  | fuel, listed, a, w, hfree, hr, hc, H => by
    refine ⟨fun h => (by rw [h] at hr; cases hr), fun j hj => ?_⟩
    by_cases hji : j = i
    · subst hji
      exact hg.wpOp hi hc ⟨hup a w hc, H⟩
    · have hm := ready_mono hj hji
      cases fuel with
      | zero =>
        rw [H.1] at hm
        cases hm
      | succ fuel =>
        obtain ⟨hjun, oj, hoj, hall⟩ := mem_ready.1 hj
        have hnot : ∀ e ∈ oj.after, Region.binds md e = true → e.on ≠ i := fun e he hb heq => by
          have h1 := hall e he hb
          have h0 := (mem_ready.1 hr).1
          rw [heq] at h1
          rcases Nat.lt_or_ge i listed.size with h' | h'
          · simp [h'] at h0 h1; rw [h0] at h1; cases h1
          · simp [Array.getElem?_eq_none h'] at h1
        have h2 := wpOp_put (oi := standIn oi v) (v := v) hoj (standIn_apart (hfree j oj hoj hji hjun hnot)) (fun cs b h => by cases h) (fun cs b => Region.noSelect_spec hs j oj cs b hoj) hQ (standIn_yields oi v a) (H.2 j hm)
        have hfree' : ∀ k ok, ops[k]? = some ok → k ≠ i → (listed.setIfInBounds j true).getD k true = false →
            (∀ e ∈ ok.after, Region.binds md e = true → e.on ≠ i) → oi.apart ops ok = true := fun k ok hk hki hun hno => by
          refine hfree k ok hk hki ?_ hno
          by_cases hjk : j = k
          · subst hjk; exact hjun
          · rw [getD_set_ne true hjk] at hun; exact hun
        refine wpOp_mono (fun a' w' h3 => ?_) h2
        have hc' := hdn a' w' h3.2.1
        refine ⟨hc', wpAnyC_first hi hs hQ hg hdn hup fuel (listed.setIfInBounds j true) a' w' hfree' (ready_mono hr (Ne.symm hji)) hc' ?_⟩
        rw [Array.setIfInBounds_comm _ _ hji]
        exact h3.2.2

theorem wpAnyC_take {i : Nat} {oi : Oper} {v : Value} {fuel : Nat} {listed : Array Bool} {a : Act} {w : World} (hi : ops[i]? = some oi) (hs : Region.noSelect ops = true)
    (hf : Region.free md ops listed i = true) (hr : (Region.ready md ops listed).contains i = true)
    (hQ : ∀ c a w, Q (.panic c) (a.put oi.dst v) w → Q (.panic c) a w) (hg : Gives P ops C oi v) (hdn : ∀ a w, C (a.put oi.dst v) w → C a w) (hup : ∀ a w, C a w → C (a.put oi.dst v) w)
    (hc : C a w) (h : wpAnyC P md ops Q C fuel (listed.setIfInBounds i true) (a.put oi.dst v) w) : wpAnyC P md ops Q C (fuel + 1) listed a w :=
  wpAnyC_first hi hs hQ hg hdn hup fuel listed a w (Region.free_spec hi hf) (by simpa using hr) hc h

theorem wpAnyC_one {i : Nat} {o : Oper} {fuel : Nat} {listed : Array Bool} {a : Act} {w : World} (hr : Region.ready md ops listed = [i]) (ho : ops[i]? = some o)
    (h : ∀ K' : Act → World → Prop, (∀ a w, (C a w ∧ wpAnyC P md ops Q C fuel (listed.setIfInBounds i true) a w) → K' a w) → if Region.wanted o (yielded ops a.tmps) = true then Oper.wp P o a w K' Q else K' (a.put o.dst undef) w) :
    wpAnyC P md ops Q C (fuel + 1) listed a w := by
  refine ⟨fun h0 => (by rw [hr] at h0; cases h0), fun j hj => ?_⟩
  rw [hr] at hj
  obtain rfl : j = i := by simpa using hj
  exact wpOp_step ho h

theorem wpAnyC_done {listed : Array Bool} {a : Act} {w : World} (hr : Region.ready md ops listed = []) (h : Q .normal a w) : ∀ fuel, wpAnyC P md ops Q C fuel listed a w
  | 0 => ⟨hr, h⟩
  | _ + 1 => ⟨fun _ => h, by rw [hr]; simp⟩
theorem wpAnyC_two {i j : Nat} {oi oj : Oper} {fuel : Nat} {listed : Array Bool} {a : Act} {w : World} (hr : Region.ready md ops listed = [i, j]) (hi : ops[i]? = some oi) (hj : ops[j]? = some oj)
    (h1 : ∀ K' : Act → World → Prop, (∀ a w, (C a w ∧ wpAnyC P md ops Q C fuel (listed.setIfInBounds i true) a w) → K' a w) → if Region.wanted oi (yielded ops a.tmps) = true then Oper.wp P oi a w K' Q else K' (a.put oi.dst undef) w)
    (h2 : ∀ K' : Act → World → Prop, (∀ a w, (C a w ∧ wpAnyC P md ops Q C fuel (listed.setIfInBounds j true) a w) → K' a w) → if Region.wanted oj (yielded ops a.tmps) = true then Oper.wp P oj a w K' Q else K' (a.put oj.dst undef) w) :
    wpAnyC P md ops Q C (fuel + 1) listed a w := by
  refine ⟨fun h0 => (by rw [hr] at h0; cases h0), fun k hk => ?_⟩
  rw [hr] at hk
  rcases List.mem_cons.1 hk with rfl | hk
  · exact wpOp_step hi h1
  · obtain rfl : k = j := by simpa using hk
    exact wpOp_step hj h2
end

section
variable {P : Program} {ops : Array Oper} {Q : Exit → Act → World → Prop} {md : Region.Mode}
theorem wpAnyC_mono {C C' : Act → World → Prop} (hC : ∀ a w, C' a w → C a w) : ∀ (fuel : Nat) (listed : Array Bool) (a : Act) (w : World), wpAnyC P md ops Q C' fuel listed a w → wpAnyC P md ops Q C fuel listed a w
  | 0, _, _, _, h => h
  | fuel + 1, _, _, _, h => ⟨h.1, fun i hi => wpOp_mono (fun a' w' h' => ⟨hC _ _ h'.1, wpAnyC_mono hC fuel _ a' w' h'.2⟩) (h.2 i hi)⟩
end

def SlotsCells (ps : List (Nat × Value)) (qs : List (Addr × Value)) (a : Act) (u : World) : Prop := (∀ p ∈ ps, a.eval (.tmp p.1) = p.2) ∧ ∀ q ∈ qs, u.cell? q.1 = some q.2
theorem SlotsCells.put {ps : List (Nat × Value)} {qs : List (Addr × Value)} {a : Act} {u : World} (s : Nat) (v : Value) (hs : (ps.all fun p => p.1 != s) = true) :
    SlotsCells ps qs (a.put (some s) v) u ↔ SlotsCells ps qs a u := by
  have e : ∀ p ∈ ps, (a.put (some s) v).eval (.tmp p.1) = a.eval (.tmp p.1) := fun p hp => Act.eval_put (fun d hd => by
    have h1 := (List.all_eq_true.1 hs) p hp
    simp at h1 hd
    subst hd
    intro h
    injection h with h
    exact h1 h)
  constructor
  · rintro ⟨h, hb⟩
    exact ⟨fun p hp => (e p hp).symm.trans (h p hp), hb⟩
  · rintro ⟨h, hb⟩
    exact ⟨fun p hp => (e p hp).trans (h p hp), hb⟩
theorem SlotsCells.load {ps : List (Nat × Value)} {qs : List (Addr × Value)} {a : Act} {u : World} (h : SlotsCells ps qs a u) {s : Nat} {p : Addr} {v : Value} (hp : (s, Value.pointer (some p)) ∈ ps) (hq : (p, v) ∈ qs) :
    a.tmps[s]?.getD undef = .pointer (some p) ∧ u.cell? p = some v := ⟨by have := h.1 _ hp; simpa [Act.eval] using this, h.2 _ hq⟩

theorem SlotsCells.val {ps : List (Nat × Value)} {qs : List (Addr × Value)} {a : Act} {u : World} (h : SlotsCells ps qs a u) {s : Nat} {v : Value} (hp : (s, v) ∈ ps) : a.tmps[s]?.getD undef = v := by have := h.1 _ hp; simpa [Act.eval] using this
end Go.Proofs.YtnldkpckojhbhaaGreat.Dk

/-
  The power of a disk: fuses, operations, Arm, Fail.
-/
namespace Go.Proofs.YtnldkpckojhbhaaGreat.Dk
open Go.RowKit

theorem set_same {cs : Array Value} {j : Nat} {v : Value} (h : cs[j]? = some v) : cs.setIfInBounds j v = cs := by
  obtain ⟨hj, rfl⟩ := Array.getElem?_eq_some_iff.1 h
  apply Array.toList_inj.1
  rw [Array.toList_setIfInBounds]
  apply List.ext_getElem?
  intro i
  by_cases e : j = i
  · subst e; simp [hj]
  · rw [List.getElem?_set_ne e]

theorem stops_at (g j : Nat) (f : Fuse) (cs : Array Value) (w : World) (hb : Box w g cs 134) (h0 : cs[j]? = some (.bool f.set)) (h1 : cs[j + 1]? = some (.int .i64 (f.left : Int))) (hf : f.left < 9223372036854775808) :
    Calls Tryz.prog 170 #[.pointer (some ⟨g, j, none⟩)] w fun e w' => e = .returned (.bool f.stops) ∧ Box w' g ((cs.setIfInBounds j (.bool f.then.set)).setIfInBounds (j + 1) (.int .i64 (f.then.left : Int))) 134 ∧ w.grownBy w' (some g) := by
  have c0 := hb.cell j
  have c1 := hb.cell (j + 1)
  rw [h0] at c0
  rw [h1] at c1
  have f0 := hb.frozen j
  have f1 := hb.frozen (j + 1)
  obtain ⟨s, n⟩ := f
  cases s with
  | false =>
    have e : ((cs.setIfInBounds j (.bool (Fuse.then ⟨false, n⟩).set)).setIfInBounds (j + 1) (.int .i64 ((Fuse.then ⟨false, n⟩).left : Int))) = cs := by
      show (cs.setIfInBounds j (.bool false)).setIfInBounds (j + 1) (.int .i64 (n : Int)) = cs
      rw [set_same h0, set_same h1]
    rw [e]
    go_enter Tryz.func170, Tryz.ntmps170
    go_wp2
    go_ret
    exact ⟨rfl, hb, World.grownBy.refl _ _⟩
  | true =>
    by_cases hn : 0 < n
    · have e1 : Fuse.then ⟨true, n⟩ = ⟨true, n - 1⟩ := by simp [Fuse.then, hn]
      have e2 : Fuse.stops ⟨true, n⟩ = false := by simp [Fuse.stops]; omega
      have e3 : ((n - 1 : Nat) : Int) = (n : Int) - 1 := by omega
      rw [e1, e2]
      have e4 : cs.setIfInBounds j (.bool true) = cs := set_same h0
      have hs := hb.store (j + 1) (.int .i64 ((n : Int) - 1))
      have hg := grown_store w g (j + 1) (.int .i64 ((n : Int) - 1))
      have hn' : (0 : Int) < n := by omega
      dsimp only at c1 hf
      clear h0 h1 hb e1 e2
      have E3 : Hid _ := e3
      have E4 : Hid _ := e4
      clear e3 e4
      go_enter Tryz.func170, Tryz.ntmps170
      go_wp2
      go_ret
      refine ⟨rfl, ?_, hg⟩
      show Box _ g ((cs.setIfInBounds j (.bool true)).setIfInBounds (j + 1) (.int .i64 ((n - 1 : Nat) : Int))) 134
      rw [E3.out, E4.out]
      exact hs
    · obtain rfl : n = 0 := by omega
      have hs := (hb.store j (.bool false)).store (j + 1) (.int .i64 0)
      have hg := grown_trans (grown_store w g j (.bool false)) (grown_store _ g (j + 1) (.int .i64 0))
      clear h0 h1 hb
      go_enter Tryz.func170, Tryz.ntmps170
      go_wp2
      go_ret
      exact ⟨rfl, hs, hg⟩

theorem Lies.turned {w w' : World} {g : Nat} {D D' : DS} {F : Nat → Prop} {gd cd : Nat} {vu : Value} {ps : List (Nat × Nat × Nat)} (h : Lies w g D F gd cd vu ps) (hg : w.grownBy w' (some g))
    (hb : Box w' g (diskC g (.slice (some ⟨gd, 0, none⟩) (D'.nb * 4096) cd) vu D') 134) (hd : D'.dur = D.dur) (hu : D'.uf = D.uf) (ok : D'.Ok) : Lies w' g D' F gd cd vu ps := by
  obtain ⟨cur, hcur, hrest⟩ := h.dur
  have ngd : gd ≠ g := hcur.ne h.box (by decide)
  refine ⟨hb, ?_, ?_, ?_, ?_, h.fg, h.fd, h.fu, fun i hi => Nat.lt_of_lt_of_le (h.flt i hi) hg.size, ok⟩
  · rw [hd]
    exact h.dur.same (hg.block gd hcur.lt (by simpa using ngd))
  · rw [hu]
    refine ⟨h.row.1, ?_⟩
    rcases h.row.2 with h1 | ⟨g', cap, cur', rfl, hb', hg', r⟩
    · exact .inl h1
    · have hne : g' ≠ g := Box.ne (w := w) (t := 136) hg' h.box (by decide)
      exact .inr ⟨g', cap, cur', rfl, hb', (hg.block g' (Array.getElem?_eq_some_iff.1 hg').1 (by simpa using hne)).trans hg', r⟩
  · rw [hu]; exact h.len
  · intro k h1 h2
    have h2' : k < D.uf.length := by rw [← hu]; exact h2
    obtain ⟨a, b, c, d⟩ := h.each k h1 h2'
    have e : D'.uf[k] = D.uf[k] := by simp only [hu]
    rw [e]
    obtain ⟨cur2, hb2, r2⟩ := b
    have hne : ps[k].2.1 ≠ g := hb2.ne h.box (by decide)
    exact ⟨a, RowB.same ⟨cur2, hb2, r2⟩ (hg.block _ hb2.lt (by simpa using hne)), c, d⟩

set_option maxRecDepth 100000 in
theorem operation_at {g : Nat} {w : World} {D : DS} {F : Nat → Prop} {gd cd : Nat} {vu : Value} {ps : List (Nat × Nat × Nat)} (h : Lies w g D F gd cd vu ps) :
    Calls Tryz.prog 103 #[.pointer (some ⟨g, 4, none⟩)] w fun e w' => e = .returned (.int .i64 (D.operE : Int)) ∧ Lies w' g D.oper F gd cd vu ps ∧ w.grownBy w' (some g) := by
  obtain ⟨_, _, _, _, c4, _⟩ := box_cells h.box
  cases hgone : D.gone with
  | true =>
    have e1 : D.operE = 6 := by simp [DS.operE, hgone]
    have e2 : D.oper = D := by simp [DS.oper, hgone]
    rw [e1, e2]
    rw [hgone] at c4
    go_enter Tryz.func103, Tryz.ntmps103
    go_wp2
    go_ret
    exact ⟨rfl, h, World.grownBy.refl _ _⟩
  | false =>
    rw [hgone] at c4
    have e0 : D.oper = { D with gone := D.arm.stops, arm := D.arm.then, fail := D.fail.then } := by simp [DS.oper, hgone]
    have e1 : D.operE = if D.arm.stops then 6 else if D.fail.stops then 4 else 0 := by simp [DS.operE, hgone]
    have hok := h.ok.oper
    rw [e0] at hok
    obtain ⟨E, hE⟩ : ∃ E, E = D.operE := ⟨_, rfl⟩
    obtain ⟨O, hO⟩ : ∃ O, O = D.oper := ⟨_, rfl⟩
    rw [← hE, ← hO]
    rw [e1] at hE
    rw [e0] at hO
    have HE : Hid _ := hE
    have HO : Hid _ := hO
    clear e0 e1 hE hO
    go_enter Tryz.func103, Tryz.ntmps103
    go_wp2_with fail
    refine wp_region_any (by kernel_rfl) ?_
    change wpAny _ _ _ _ _ _ _ (World.drew _)
    refine wpAny_take (i := 0) (v := ?_) rfl (by kernel_rfl) (by kernel_rfl) (by kernel_rfl) (fun _ _ _ h => h) (Or.inl ⟨by rfl, ?_⟩) ?_
    rotate_left
    · intro w
      go_simp
      with_reducible rfl
    refine wpAny_take (i := 1) (v := ?_) rfl (by kernel_rfl) (by kernel_rfl) (by kernel_rfl) (fun _ _ _ h => h) (Or.inl ⟨by rfl, ?_⟩) ?_
    rotate_left
    · intro w
      go_simp
      with_reducible rfl
    refine wpAny_take (i := 2) (v := ?_) rfl (by kernel_rfl) (by kernel_rfl) (by kernel_rfl) (fun _ _ _ h => h) (Or.inl ⟨by rfl, ?_⟩) ?_
    rotate_left
    · intro w
      go_simp
      with_reducible rfl
    refine wpAny_take (i := 4) (v := ?_) rfl (by kernel_rfl) (by kernel_rfl) (by kernel_rfl) (fun _ _ _ h => h) (Or.inl ⟨by rfl, ?_⟩) ?_
    rotate_left
    · intro w
      go_simp
      with_reducible rfl
    refine wpAny_take (i := 5) (v := ?_) rfl (by kernel_rfl) (by kernel_rfl) (by kernel_rfl) (fun _ _ _ h => h) (Or.inl ⟨by rfl, ?_⟩) ?_
    rotate_left
    · intro w
      go_simp
      with_reducible rfl
    refine wpAny_take (i := 6) (v := ?_) rfl (by kernel_rfl) (by kernel_rfl) (by kernel_rfl) (fun _ _ _ h => h) (Or.inl ⟨by rfl, ?_⟩) ?_
    rotate_left
    · intro w
      go_simp
      with_reducible rfl
    simp only [Act.put, List.setIfInBounds_toArray, List.set_cons_zero, List.set_cons_succ, List.getElem_toArray, List.getElem_cons_zero, List.getElem_cons_succ]
    refine wpAny_of_class (C := fun _ _ => True) _ _ _ _ ?_
    refine wpAnyC_one (i := 3) (by kernel_rfl) rfl (fun K hK => ?_)
    go_simp
    have hb0 : Box w.drew g (diskC g (.slice (some ⟨gd, 0, none⟩) (D.nb * 4096) cd) vu D) 134 := h.box
    refine (stops_at g 5 D.arm _ w.drew hb0 rfl rfl h.ok.arm).mono ?_
    rintro e w1 ⟨rfl, b1, g1⟩
    refine hK _ _ ⟨trivial, ?_⟩
    clear hK K
    refine wpAnyC_one (i := 7) (by kernel_rfl) rfl (fun K hK => ?_)
    go_simp
    refine (stops_at g 7 D.fail _ w1 b1 rfl rfl h.ok.fail).mono ?_
    rintro e w2 ⟨rfl, b2, g2⟩
    refine hK _ _ ⟨trivial, ?_⟩
    clear hK K
    have gr : w.grownBy w2 (some g) := grown_trans ⟨g1.os, g1.tape, g1.output, g1.size, g1.block⟩ g2
    have bx : Box w2 g #[.pointer (some ⟨g, 0, none⟩), .slice (some ⟨gd, 0, none⟩) (D.nb * 4096) cd, vu, .int .i64 (D.n : Int), .bool D.gone, .bool D.arm.then.set, .int .i64 (D.arm.then.left : Int), .bool D.fail.then.set, .int .i64 (D.fail.then.left : Int)] 134 := b2
    clear b1 b2 g1 g2 hb0 c4
    refine wpAnyC_mono (C' := SlotsCells [(12, .bool D.arm.stops), (16, .bool D.fail.stops)] []) (fun _ _ _ => trivial) _ _ _ _ ?_
    refine wpAnyC_take (i := 8) (v := .bool D.arm.stops) rfl (by kernel_rfl) (by kernel_rfl) (by kernel_rfl) (fun _ _ _ h => h) ?_ (fun fr u h => (SlotsCells.put 3 _ (by rfl)).1 h) (fun fr u h => (SlotsCells.put 3 _ (by rfl)).2 h) ?_ ?_
    · intro fr u hh
      have h1 := hh.val (s := 12) (v := .bool D.arm.stops) (by simp)
      exact ⟨rfl, by simp [execOp, h1, go_sem]⟩
    · refine ⟨fun p hp => ?_, fun q hq => by simp at hq⟩
      simp at hp
      rcases hp with rfl | rfl <;> rfl
    simp only [Act.put, List.setIfInBounds_toArray, List.set_cons_zero, List.set_cons_succ, List.getElem_toArray, List.getElem_cons_zero, List.getElem_cons_succ]
    refine wpAnyC_one (i := 9) (by kernel_rfl) rfl (fun K hK => ?_)
    go_simp
    refine hK _ _ ⟨?_, ?_⟩
    · refine ⟨fun p hp => ?_, fun q hq => by simp at hq⟩
      simp at hp
      rcases hp with rfl | rfl <;> rfl
    clear hK K
    refine wpAnyC_done (by kernel_rfl) ?_ _
    have f4 := bx.frozen 4
    have c4 := bx.cell 4
    simp only [List.getElem?_toArray, List.getElem?_cons_zero, List.getElem?_cons_succ] at c4
    cases ha : D.arm.stops with
    | true =>
      have b3 := bx.store 4 (.bool true)
      have g3 := grown_trans gr (grown_store w2 g 4 (.bool true))
      have hl := h.turned (D' := { D with gone := true, arm := D.arm.then, fail := D.fail.then }) g3 b3 rfl rfl (by rw [ha] at hok; exact hok)
      clear h hok bx gr b3
      have HO' : Hid (O = { D with gone := true, arm := D.arm.then, fail := D.fail.then }) := by have := HO.out; rw [ha] at this; exact this
      have HE' : Hid (E = 6) := by have := HE.out; rw [ha] at this; exact this
      clear HO HE
      go_wp2
      go_ret
      rw [HO'.out, HE'.out]
      exact ⟨rfl, hl, g3⟩
    | false =>
      have b3 : Box w2 g (diskC g (.slice (some ⟨gd, 0, none⟩) (D.nb * 4096) cd) vu { D with gone := false, arm := D.arm.then, fail := D.fail.then }) 134 := by rw [← hgone]; exact bx
      have hl := h.turned (D' := { D with gone := false, arm := D.arm.then, fail := D.fail.then }) gr b3 rfl rfl (by rw [ha] at hok; exact hok)
      clear h hok bx b3
      have HO' : Hid (O = { D with gone := false, arm := D.arm.then, fail := D.fail.then }) := by have := HO.out; rw [ha] at this; exact this
      clear HO
      cases hf : D.fail.stops with
      | true =>
        have HE' : Hid (E = 4) := by have := HE.out; rw [ha, hf] at this; exact this
        clear HE
        go_wp2
        go_ret
        rw [HO'.out, HE'.out]
        exact ⟨rfl, hl, gr⟩
      | false =>
        have HE' : Hid (E = 0) := by have := HE.out; rw [ha, hf] at this; exact this
        clear HE
        go_wp2
        go_ret
        rw [HO'.out, HE'.out]
        exact ⟨rfl, hl, gr⟩

end Go.Proofs.YtnldkpckojhbhaaGreat.Dk

/-
  Disks that are made: Clone, holding, New, Load.
-/
namespace Go.Proofs.YtnldkpckojhbhaaGreat.Dk
open Go.RowKit

theorem eqlSlice (ad : Addr) (n cap : Nat) (u : World) : (binOp .eql 37 (.slice (some ad) n cap) (.slice none 0 0)).run Tryz.prog u = .ok (.bool false) u := by
  have h : ∀ d : Nat, (Op.equalIn (d + 1) 37 (.slice (some ad) n cap) (.slice none 0 0)).run Tryz.prog u = .ok false u := fun d => by
    simp [Op.equalIn, run_underlying Tryz.underlying37]
  simp only [binOp]
  simp [Op.equal, Op.maxDepth, h 9999]

theorem clone_at (cap n : Nat) (ad : Addr) (xs : List UInt8) (w : World) (hl : xs.length = n) (h0 : 0 < n) (hn : n ≤ 100000000) (hr : Rd w (some ad) xs) :
    Calls Tryz.prog 83 #[.slice (some ad) n cap] w fun e w' => ∃ g cap', e = .returned (.slice (some ⟨g, 0, none⟩) n cap') ∧ w.heap.size ≤ g ∧ RowB w' g cap' xs ∧ Below w.heap.size w w' := by
  obtain ⟨i0, hi, hz0, hz1, hz2⟩ := info_parts info5
  have hb0 : Below w.heap.size w (w.alloc (.cells #[] 5)) := (Below.refl _ _).alloc (Nat.le_refl _) _
  have hr1 := hr.below hb0 (Nat.le_refl _)
  have ho : (w.alloc (.cells #[] 5)).ownsRow w.heap.size 5 1 (.slice (some ⟨w.heap.size, 0, none⟩) 0 0) 0 [] := World.ownsRow_made w #[] 0 (Nat.le_refl _) (by simp [maxLen]) rfl
  have Hl : Hid _ := hl
  clear hl
  have z0 := hb0.size
  have he := eqlSlice ad n cap
  go_enter Tryz.func83, Tryz.ntmps83
  go_wp2_with (at_builtin; refine wpList_append_bytes rfl _ _ rfl w.heap.size (.slice (some ⟨w.heap.size, 0, none⟩) 0 0) 0 [] rfl ho (some ad) n cap xs rfl Hl.out hr1 (by simp) (by omega) z0 ?_)
  intro v1 w1 o1 g1
  obtain ⟨g, cap', rfl, hg, hrow⟩ := RowB.owns o1 h0
  have B1 : Below w.heap.size w w1 := hb0.grown g1 z0 (fun k hk => by simp [Value.ownBlock] at hk; omega)
  clear o1 g1 ho hr1 hb0
  go_wp2
  go_ret
  exact ⟨g, cap', rfl, hg, hrow, B1⟩

theorem holding_at (gd cd nb : Nat) (d : List UInt8) (w : World) (hrow : RowB w gd cd d) (hl : d.length = nb * 4096) (h1 : 1 ≤ nb) (h2 : nb ≤ 512) :
    Calls Tryz.prog 102 #[.slice (some ⟨gd, 0, none⟩) (nb * 4096) cd] w fun e w' => e = .returned (.pointer (some ⟨w.heap.size, 0, none⟩)) ∧ IsDisk w' w.heap.size (DS.new nb d) (fun i => i = w.heap.size ∨ i = gd) ∧ Below w.heap.size w w' := by
  have b1 := Box.new w (diskC w.heap.size (.slice (some ⟨gd, 0, none⟩) (nb * 4096) cd) (.slice none 0 0) (DS.new nb d)) 134
  have B1 := (Below.refl w.heap.size w).alloc (Nat.le_refl _) (.cells (diskC w.heap.size (.slice (some ⟨gd, 0, none⟩) (nb * 4096) cd) (.slice none 0 0) (DS.new nb d)) 134)
  have hlt := hrow.lt
  have hs := B1.size
  have hlies : Lies _ w.heap.size (DS.new nb d) (fun i => i = w.heap.size ∨ i = gd) gd cd (.slice none 0 0) [] :=
    { box := b1, dur := hrow.same (B1.block gd hlt), row := World.ownsRow_nil _ _ _ _, len := rfl, each := fun k h => by simp at h, fg := .inl rfl, fd := .inr rfl, fu := fun k h => by simp [Value.ownBlock] at h,
      flt := fun i hi => by
        rcases hi with rfl | rfl
        · exact b1.lt
        · omega
      ok := DS.Ok.new hl h1 h2 }
  clear b1 hrow hl
  go_enter Tryz.func102, Tryz.ntmps102
  go_wp2
  go_ret
  exact ⟨rfl, ⟨_, _, _, _, hlies⟩, B1⟩

def nought (n : Nat) : List UInt8 := List.replicate n 0
theorem nought_length (n : Nat) : (nought n).length = n := by simp [nought]

theorem make_run (n : Nat) (hn : n ≤ 281474976710656) (u : World) : (Instr.makeSlice 37 (.int .i64 (n : Int)) (.int .i64 (n : Int))).run Tryz.prog u =
    .ok (.slice (some ⟨u.heap.size, 0, none⟩) n n) (u.alloc (.cells (bcs (nought n)).toArray 5)) := by
  obtain ⟨i0, hi, hz0, hz1, hz2⟩ := info_parts info5
  have h := run_make (P := Tryz.prog) u 37 5 i0 (.int .u8 0) Tryz.underlying37 hi hz0 .i64 .i64 (n : Int) (n : Int) (by omega) (Int.le_refl _) (by rw [hz2]; omega) (by omega)
  have e : ((n : Int)).toNat = n := by omega
  rw [e, hz1, Nat.mul_one] at h
  have e2 : madeCells #[.int .u8 0] n = (bcs (nought n)).toArray := made_zero n
  rw [← e2]
  exact h

def NewDisk (w w' : World) (g : Nat) (D : DS) : Prop := ∃ F : Nat → Prop, IsDisk w' g D F ∧ (∀ i, F i → w.heap.size ≤ i) ∧ Below w.heap.size w w'

theorem new_at (nb : Nat) (w : World) (h1 : 1 ≤ nb) (h2 : nb ≤ 512) :
    Calls Tryz.prog 33 #[.int .i64 (nb : Int)] w fun e w' => ∃ g, e = .returned (.tuple #[.pointer (some ⟨g, 0, none⟩), .int .i64 0]) ∧ NewDisk w w' g (DS.new nb (nought (nb * 4096))) := by
  have c := rightSize_at nb w
  have hc : (decide ((1 : Int) ≤ (nb : Int)) && decide ((nb : Int) ≤ 512)) = true := by simp; omega
  rw [hc] at c
  have hm := make_run (nb * 4096) (by omega)
  have em : ((nb * 4096 : Nat) : Int) = (nb : Int) * 4096 := by omega
  rw [em] at hm
  clear em
  have own := own_lit w (nought (nb * 4096))
  have B1 := (Below.refl w.heap.size w).alloc (Nat.le_refl _) (.cells (bcs (nought (nb * 4096))).toArray 5)
  have rw0 := RowB.own own (by rw [nought_length]; unfold maxLen; omega)
  rw [nought_length] at rw0
  have hlen : (nought (nb * 4096)).length = nb * 4096 := nought_length _
  generalize nought (nb * 4096) = Z at hm own B1 rw0 hlen ⊢
  obtain ⟨U, hU⟩ : ∃ U, U = w.alloc (.cells (bcs Z).toArray 5) := ⟨_, rfl⟩
  rw [← hU] at B1 rw0
  have ch := holding_at w.heap.size (nb * 4096) nb Z U rw0 hlen h1 h2
  have HU : Hid _ := hU
  clear own hU hlen hc
  go_enter Tryz.func33, Tryz.ntmps33
  go_wp2_with fail
  refine c.mono ?_
  rintro e w' ⟨rfl, rfl⟩
  go_wp2_with fail
  rw [← HU.out]
  refine ch.mono ?_
  rintro e w2 ⟨rfl, hd, b2⟩
  have B2 := B1.trans (b2.mono B1.size)
  have z1 := B1.size
  clear hm ch
  go_wp2
  go_ret2
  exact ⟨_, rfl, _, hd, fun i hi => by rcases hi with rfl | rfl; exact z1; exact Nat.le_refl _, B2⟩

theorem new_bad (n : Int) (w : World) (h : n < 1 ∨ 512 < n) :
    Calls Tryz.prog 33 #[.int .i64 n] w fun e w' => e = .returned (.tuple #[.pointer none, .int .i64 2]) ∧ w = w' := by
  have c := rightSize_at n w
  have hc : (decide ((1 : Int) ≤ n) && decide (n ≤ 512)) = false := by simp; omega
  rw [hc] at c
  clear hc h
  go_enter Tryz.func33, Tryz.ntmps33
  go_wp2_with fail
  refine c.mono ?_
  rintro e w' ⟨rfl, rfl⟩
  go_wp2
  go_ret2
  exact ⟨rfl, rfl⟩

end Go.Proofs.YtnldkpckojhbhaaGreat.Dk

/-
  Writes that are carried out upon an image.
-/
namespace Go.Proofs.YtnldkpckojhbhaaGreat.Dk
open Go.RowKit

theorem Upd.box {F : Nat → Prop} {w w' : World} {g : Nat} {cs : Array Value} {t : TypeId} (h : Upd F w w') (hb : Box w g cs t) (hg : ¬ F g) : Box w' g cs t := (h.block g hb.lt hg).trans hb
theorem Upd.rowB {F : Nat → Prop} {w w' : World} {g cap : Nat} {ys : List UInt8} (h : Upd F w w') (hb : RowB w g cap ys) (hg : ¬ F g) : RowB w' g cap ys := hb.same (h.block g hb.lt hg)
theorem Rd.part {w : World} {g o : Nat} {xs : List UInt8} (h : Rd w (some ⟨g, o, none⟩) xs) (k n : Nat) : Rd w (some ⟨g, o + k, none⟩) ((xs.drop k).take n) := fun hp => by
  have hk : k < xs.length := by simp at hp; omega
  obtain ⟨b', o', he, hc⟩ := h (by omega)
  simp only [Option.some.injEq, Addr.mk.injEq, and_true] at he
  obtain ⟨rfl, rfl⟩ := he
  refine ⟨g, o + k, rfl, fun j hj => ?_⟩
  have hj' : k + j < xs.length := by simp at hj; omega
  rw [Nat.add_assoc, hc (k + j) hj']
  simp

theorem and_one8 (a : Nat) (ha : a < 256) : bits .and .u8 (a : Int) 1 = ((a % 2 : Nat) : Int) := by
  have h := bits_mask .u8 8 (by decide) (fun n h0 h1 => by rw [IntKind.wrap_u8]; omega) 1 (by decide) (a : Int) (by omega) (by omega)
  simpa using h
theorem bitI (m k : Nat) (hm : m < 256) : (bits .and .u8 ((m : Int) / 2 ^ k) 1 == 1) = bit m k := by
  unfold bit
  have e : ((m : Int) / 2 ^ k) = ((m / 2 ^ k : Nat) : Int) := by push_cast; rfl
  rw [e, and_one8 _ (Nat.lt_of_le_of_lt (Nat.div_le_self _ _) hm)]
  rcases Nat.mod_two_eq_zero_or_one (m / 2 ^ k) with h | h <;> rw [h] <;> rfl

theorem part_i (g o len cap n size : Nat) (N S : Int) (w : World) (hN : N = (n : Int)) (hS : S = (size : Int)) (hf : n * size + size ≤ cap) (hc : cap ≤ 9223372036854775807) (hs : 0 < size) :
    Calls Tryz.prog 156 #[.slice (some ⟨g, o, none⟩) len cap, .int .i64 N, .int .i64 S] w fun e w' => e = .returned (.slice (some ⟨g, o + n * size, none⟩) size size) ∧ w = w' := by
  subst hN hS
  exact part_at g o len cap n size w hf hc hs

set_option maxRecDepth 100000 in
set_option maxHeartbeats 1000000 in
theorem carryOut_at (b gk ck gd cd L m : Nat) (data d : List UInt8) (w : World) (hk : RowB w gk ck data) (hd : RowB w gd cd d) (hne : gk ≠ gd) (hdl : data.length = 4096) (hL : d.length = L) (hb : b * 4096 + 4096 ≤ L) (hm : m < 256) :
    Calls Tryz.prog 87 #[.agg #[.int .i64 (b : Int), .slice (some ⟨gk, 0, none⟩) 4096 ck], .slice (some ⟨gd, 0, none⟩) L cd, .int .u8 (m : Int)] w fun e w' => e = .returned (.tuple #[]) ∧ RowB w' gd cd (carry d b data m) ∧ Upd (fun i => i = gd) w w' := by
  have x0 := Box.new w #[.int .i64 (b : Int), .slice (some ⟨gk, 0, none⟩) 4096 ck] 136
  have U0 := (Upd.refl (fun i => i = gd) w).alloc (.cells #[.int .i64 (b : Int), .slice (some ⟨gk, 0, none⟩) 4096 ck] 136)
  have hglt := hd.lt
  have hklt := hk.lt
  have hcd : L ≤ cd ∧ cd ≤ 9223372036854775807 := by
    obtain ⟨_, _, h1, h2, _⟩ := hd
    unfold maxLen at h2
    omega
  have hck : 4096 ≤ ck ∧ ck ≤ 9223372036854775807 := by
    obtain ⟨_, _, h1, h2, _⟩ := hk
    unfold maxLen at h2
    omega
  go_enter Tryz.func87, Tryz.ntmps87
  go_wp2_with fail
  obtain ⟨W, hW⟩ : ∃ W, W = w.alloc (.cells #[.int .i64 (b : Int), .slice (some ⟨gk, 0, none⟩) 4096 ck] 136) := ⟨_, rfl⟩
  rw [← hW] at x0 U0 ⊢
  have k0 := U0.rowB hk (fun h => hne h)
  have d0 : RowB W gd cd d := hd.same (by rw [hW]; exact Below.heap_alloc w _ gd hglt)
  obtain ⟨G, hG⟩ : ∃ G, G = w.heap.size := ⟨_, rfl⟩
  rw [← hG] at x0 ⊢
  have HL : Hid _ := hL
  have Hdl : Hid _ := hdl
  have hGd : G ≠ gd := by omega
  clear hW hG hk hd hL hdl hglt hklt
  refine (part_i gd 0 L cd b 4096 _ _ W rfl rfl (by omega) (by omega) (by omega)).mono ?_
  rintro e w' ⟨rfl, rfl⟩
  rw [Nat.zero_add]
  obtain ⟨O, hO⟩ : ∃ O, O = b * 4096 := ⟨_, rfl⟩
  rw [← hO]
  have HO : Hid _ := hO
  rw [← hO] at hb
  clear hO
  go_wp2_with fail
  go_loopw [12] (fun i wr => ∃ k : Nat, k ≤ 8 ∧ i = .int .i64 k ∧ Box wr G #[.int .i64 (b : Int), .slice (some ⟨gk, 0, none⟩) 4096 ck] 136 ∧ RowB wr gd cd (carryN d b data m k) ∧ RowB wr gk ck data ∧ Upd (fun i => i = gd) w wr) (fun i _ => 8 - (intOf i).toNat)
  case atStart => exact ⟨0, Nat.zero_le _, rfl, x0, d0, k0, U0⟩
  case round =>
    obtain ⟨k, hk, rfl, x, hd, hkd, U⟩ := hrel
    clear x0 d0 k0 U0
    by_cases hlt : k < 8
    · have hlt2 : (k : Int) < 8 := by omega
      have hbi := bitI m k hm
      have hcl : (carryN d b data m k).length = L := by rw [carryN_length d b data m (by rw [HL.out, ← HO.out]; exact hb) Hdl.out k hk, HL.out]
      have hsucc : carryN d b data m (k + 1) = if bit m k then putAt (carryN d b data m k) (b * 4096 + k * 512) (sec data k) else carryN d b data m k := rfl
      have Hcl : Hid _ := hcl
      have Hsucc : Hid _ := hsucc
      clear hcl hsucc
      cases hbit : bit m k with
      | false =>
        rw [hbit] at hbi
        have Hs : Hid (carryN d b data m (k + 1) = carryN d b data m k) := by have := Hsucc.out; rw [hbit] at this; exact this
        clear Hsucc
        go_wp2_with fail
        go_roundw
        case rel => exact ⟨k + 1, by omega, by go_num, x, by rw [Hs.out]; exact hd, hkd, U⟩
        case measure => simp [intOf]; omega
      | true =>
        rw [hbit] at hbi
        have Hs : Hid (carryN d b data m (k + 1) = putAt (carryN d b data m k) (O + k * 512) (sec data k)) := by have := Hsucc.out; rw [hbit, ← HO.out] at this; exact this
        clear Hsucc
        have hsl := sec_length data k Hdl.out hlt
        have x1 := x.cell 1
        simp only [List.getElem?_toArray, List.getElem?_cons_zero, List.getElem?_cons_succ] at x1
        have dr : RowB wr.drew gd cd (carryN d b data m k) := hd
        have kr : RowB wr.drew gk ck data := hkd
        have rs : Rd wr.drew (some ⟨gk, k * 512, none⟩) (sec data k) := by have := kr.rd.part (k * 512) 512; rw [Nat.zero_add] at this; exact this
        obtain ⟨V, hcp, hV, hgV⟩ := copy_row gd cd (O + k * 512) 512 512 (some ⟨gk, k * 512, none⟩) 512 (sec data k) (carryN d b data m k) wr.drew dr rs (by omega) (by rw [Hcl.out, hsl]; omega) (by omega)
        rw [hsl] at hcp
        have U2 : Upd (fun i => i = gd) w V := (U.drew).grown hgV (fun q e => by cases e; exact .inl rfl)
        have xV : Box V G #[.int .i64 (b : Int), .slice (some ⟨gk, 0, none⟩) 4096 ck] 136 := (hgV.block G x.lt (by simpa using hGd)).trans x
        have kV : RowB V gk ck data := kr.same (hgV.block gk kr.lt (by simpa using hne))
        clear hsl hgV dr kr rs
        go_wp2_with fail
        refine wp_region_any (by kernel_rfl) ?_
        change wpAny _ _ _ _ _ _ _ (World.drew _)
        refine wpAny_take (i := 0) (v := ?_) rfl (by kernel_rfl) (by kernel_rfl) (by kernel_rfl) (fun _ _ _ h => h) (Or.inl ⟨by rfl, ?_⟩) ?_
        rotate_left
        · intro w
          go_simp
          with_reducible rfl
        refine wpAny_take (i := 1) (v := ?_) rfl (by kernel_rfl) (by kernel_rfl) (by kernel_rfl) (fun _ _ _ h => h) (Or.inl ⟨by rfl, ?_⟩) ?_
        rotate_left
        · intro w
          go_simp
          with_reducible rfl
        refine wpAny_take (i := 3) (v := ?_) rfl (by kernel_rfl) (by kernel_rfl) (by kernel_rfl) (fun _ _ _ h => h) (Or.inl ⟨by rfl, ?_⟩) ?_
        rotate_left
        · intro w
          go_simp
          with_reducible rfl
        refine wpAny_take (i := 5) (v := ?_) rfl (by kernel_rfl) (by kernel_rfl) (by kernel_rfl) (fun _ _ _ h => h) (Or.inl ⟨by rfl, ?_⟩) ?_
        rotate_left
        · intro w
          go_simp
          with_reducible rfl
        simp only [Act.put, List.setIfInBounds_toArray, List.set_cons_zero, List.set_cons_succ, List.getElem_toArray, List.getElem_cons_zero, List.getElem_cons_succ]
        refine wpAny_of_class (C := SlotsCells [(23, .pointer (some ⟨G, 1, none⟩))] [(⟨G, 1, none⟩, .slice (some ⟨gk, 0, none⟩) 4096 ck)]) _ _ _ _ ?_
        have hq : ∀ u : World, Box u G #[.int .i64 (b : Int), .slice (some ⟨gk, 0, none⟩) 4096 ck] 136 → ∀ q ∈ ([(⟨G, 1, none⟩, .slice (some ⟨gk, 0, none⟩) 4096 ck)] : List (Addr × Value)), u.cell? q.1 = some q.2 := by
          intro u hu q hq
          simp at hq
          subst hq
          exact hu.cell 1
        have xd : Box wr.drew G #[.int .i64 (b : Int), .slice (some ⟨gk, 0, none⟩) 4096 ck] 136 := x
        refine wpAnyC_take (i := 4) (v := .slice (some ⟨gk, 0, none⟩) 4096 ck) rfl (by kernel_rfl) (by kernel_rfl) (by kernel_rfl) (fun _ _ _ h => h) ?_ (fun fr u h => (SlotsCells.put 24 _ (by rfl)).1 h) (fun fr u h => (SlotsCells.put 24 _ (by rfl)).2 h) ?_ ?_
        · intro fr u hh
          obtain ⟨e1, e2⟩ := hh.load (s := 23) (p := ⟨G, 1, none⟩) (v := .slice (some ⟨gk, 0, none⟩) 4096 ck) (by simp) (by simp)
          exact ⟨rfl, by simp [execOp, e1, go_sem, e2]⟩
        · refine ⟨fun p hp => ?_, hq _ xd⟩
          simp at hp
          subst hp
          rfl
        simp only [Act.put, List.setIfInBounds_toArray, List.set_cons_zero, List.set_cons_succ, List.getElem_toArray, List.getElem_cons_zero, List.getElem_cons_succ]
        refine wpAnyC_one (i := 2) (by kernel_rfl) rfl (fun K hK => ?_)
        go_simp
        refine (part_i gd O 4096 4096 k 512 _ _ wr.drew rfl rfl (by omega) (by omega) (by omega)).mono ?_
        rintro e w' ⟨rfl, rfl⟩
        refine hK _ _ ⟨?_, ?_⟩
        · refine ⟨fun p hp => ?_, hq _ xd⟩
          simp at hp
          subst hp
          rfl
        clear hK K
        refine wpAnyC_one (i := 6) (by kernel_rfl) rfl (fun K hK => ?_)
        go_simp
        refine (part_i gk 0 4096 ck k 512 _ _ wr.drew rfl rfl (by omega) (by omega) (by omega)).mono ?_
        rintro e w' ⟨rfl, rfl⟩
        rw [Nat.zero_add]
        refine hK _ _ ⟨?_, ?_⟩
        · refine ⟨fun p hp => ?_, hq _ xd⟩
          simp at hp
          subst hp
          rfl
        clear hK K
        refine wpAnyC_one (i := 7) (by kernel_rfl) rfl (fun K hK => ?_)
        go_simp
        refine hK _ _ ⟨?_, ?_⟩
        · refine ⟨fun p hp => ?_, hq _ xV⟩
          simp at hp
          subst hp
          rfl
        clear hK K hcp
        refine wpAnyC_done (by kernel_rfl) ?_ _
        go_wp2_with fail
        go_roundw
        case rel => exact ⟨k + 1, by omega, by go_num, xV, by rw [Hs.out]; exact hV, kV, U2⟩
        case measure => simp [intOf]; omega
    · obtain rfl : k = 8 := by omega
      go_wp2
      go_end0
      exact ⟨rfl, hd, U⟩
end Go.Proofs.YtnldkpckojhbhaaGreat.Dk

/-
  All unflushed writes carried out; Flush, Image, Crash.
-/
namespace Go.Proofs.YtnldkpckojhbhaaGreat.Dk
open Go.RowKit

theorem Lies.writes {w : World} {g : Nat} {D : DS} {F : Nat → Prop} {gd cd : Nat} {vu : Value} {ps : List (Nat × Nat × Nat)} (h : Lies w g D F gd cd vu ps) (h0 : 0 < D.uf.length) :
    ∃ gv cu cur, vu = .slice (some ⟨gv, 0, none⟩) D.uf.length cu ∧ D.uf.length ≤ cu ∧ cu ≤ 9223372036854775807 ∧ Box w gv cur 136 ∧
      ∀ k (hk : k < D.uf.length) (hp : k < ps.length), w.cell? ⟨gv, 0 + k * 2, none⟩ = some (.int .i64 (D.uf[k].1 : Int)) ∧ w.cell? ⟨gv, 0 + k * 2 + 1, none⟩ = some (.slice (some ⟨ps[k].2.1, 0, none⟩) 4096 ps[k].2.2) := by
  rcases h.row.2 with ⟨_, h1⟩ | ⟨gv, cu, cur, hv, hb, hg, hn, hm, hs, ht⟩
  · omega
  · refine ⟨gv, cu, cur, hv, hn, by unfold maxLen at hm; omega, hg, fun k hk hkp => ?_⟩
    obtain ⟨a0, a1⟩ := wcs_at ps k hkp
    have hc := h.row.cells (g := gv) (by rw [hv]; rfl)
    have c0 := hc _ _ a0
    have c1 := hc _ _ a1
    rw [Addr.add_lit] at c0 c1
    obtain ⟨e, _⟩ := h.each k hkp hk
    rw [e] at c0
    exact ⟨c0, c1⟩

set_option maxRecDepth 100000 in
set_option maxHeartbeats 1000000 in
theorem carryAll_at {g : Nat} {w : World} {D : DS} {F : Nat → Prop} {gd cd : Nat} {vu : Value} {ps : List (Nat × Nat × Nat)} (h : Lies w g D F gd cd vu ps) (gi ci L : Nat) (d : List UInt8) (hi : RowB w gi ci d) (hL : L = D.nb * 4096) (hd : d.length = L) (hne : ∀ k (hk : k < ps.length), ps[k].2.1 ≠ gi) :
    Calls Tryz.prog 112 #[.pointer (some ⟨g, 0, none⟩), .slice (some ⟨gi, 0, none⟩) L ci] w fun e w' => e = .returned (.tuple #[]) ∧ RowB w' gi ci (carryTo D.uf d D.uf.length) ∧ Upd (fun i => i = gi) w w' := by
  obtain ⟨_, _, c2, _⟩ := box_cells h.box
  by_cases h0 : 0 < D.uf.length
  · obtain ⟨gv, cu, cur, rfl, hcu, hmu, hbv, hcells⟩ := h.writes h0
    have hgi : gv ≠ gi := by
      obtain ⟨cur', hb', _⟩ := hi
      exact hbv.ne hb' (by decide)
    have Hcells : Hid _ := hcells
    have hlt := hbv.lt
    have Hd : Hid _ := hd
    have HL : Hid _ := hL
    have H : Hid (Lies w g D F gd cd (.slice (some ⟨gv, 0, none⟩) D.uf.length cu) ps) := h
    obtain ⟨n, hn⟩ : ∃ n, n = D.uf.length := ⟨_, rfl⟩
    rw [← hn] at hcu c2 ⊢
    have Hn : Hid _ := hn
    clear hcells hd hL h hn h0
    go_enter Tryz.func112, Tryz.ntmps112
    go_wp2_with fail
    go_loopw [11] (fun i wr => ∃ k : Nat, k ≤ n ∧ i = .int .i64 k ∧ RowB wr gi ci (carryTo D.uf d k) ∧ Upd (fun i => i = gi) w wr) (fun i _ => n - (intOf i).toNat)
    case atStart => exact ⟨0, Nat.zero_le _, rfl, hi, Upd.refl _ _⟩
    case round =>
      obtain ⟨k, hk, rfl, hrow, U⟩ := hrel
      clear hi
      by_cases hlt' : k < n
      · have hk' : k < D.uf.length := by rw [← Hn.out]; exact hlt'
        have hkp : k < ps.length := by rw [H.out.len]; exact hk'
        obtain ⟨a0, a1⟩ := Hcells.out k hk' hkp
        obtain ⟨_, hdat, _, _⟩ := H.out.each k hkp hk'
        obtain ⟨hb1, hb2⟩ := H.out.ok.at k hk'
        have hps := hne k hkp
        have hsucc : Hid (carryTo D.uf d (k + 1) = carry (carryTo D.uf d k) D.uf[k].1 D.uf[k].2 255) := carryTo_succ D.uf d k hk'
        have hlen : Hid ((carryTo D.uf d k).length = L) := by rw [carryTo_length D H.out.ok d (by rw [Hd.out, HL.out, H.out.ok.len]) k]; exact Hd.out
        have hroom : D.uf[k].1 * 4096 + 4096 ≤ L := by rw [HL.out]; omega
        generalize (ps[k]'hkp).2.1 = gk at a1 hdat hps
        generalize (ps[k]'hkp).2.2 = ck at a1 hdat
        generalize (D.uf[k]'hk').2 = data at hdat hb2 hsucc
        generalize (D.uf[k]'hk').1 = bn at a0 hsucc hb1 hroom
        have a0' := (World.cell?_of_block (a := ⟨gv, 0 + k * 2, none⟩) (U.block gv hlt hgi)).trans a0
        have a1' := (World.cell?_of_block (a := ⟨gv, 0 + k * 2 + 1, none⟩) (U.block gv hlt hgi)).trans a1
        simp only [Nat.zero_add] at a0' a1'
        have hdat' := U.rowB hdat hps
        have bA := (Below.refl wr.heap.size wr).alloc (Nat.le_refl _) (.cells #[.int .i64 (bn : Int), .slice (some ⟨gk, 0, none⟩) 4096 ck] 136)
        have U1 := U.alloc (.cells #[.int .i64 (bn : Int), .slice (some ⟨gk, 0, none⟩) 4096 ck] 136)
        have hrow1 := hrow.same (bA.block gi hrow.lt)
        have hdat1 := hdat'.same (bA.block gk hdat'.lt)
        have Hb2 : Hid _ := hb2
        clear a0 a1 hdat hdat' hb2 bA
        go_wp2_with fail
        refine (carryOut_at bn gk ck gi ci L 255 data (carryTo D.uf d k) _ hdat1 hrow1 hps Hb2.out hlen.out hroom (by omega)).mono ?_
        rintro e w1 ⟨rfl, r1, u1⟩
        have U2 := U1.trans u1 (fun i e => .inl e)
        clear hrow hrow1 hdat1 U1 u1 U
        go_wp2
        go_roundw
        case rel => exact ⟨k + 1, by omega, by go_num, by rw [hsucc.out]; exact r1, U2⟩
        case measure => simp [intOf]; omega
      · obtain rfl : k = n := by omega
        go_wp2
        go_end0
        exact ⟨rfl, hrow, U⟩
  · have hn : D.uf.length = 0 := by omega
    rw [hn]
    have hv : vu = .slice none 0 0 ∨ ∃ ad cu, vu = .slice (some ad) 0 cu := by
      rcases h.row.2 with ⟨h1, _⟩ | ⟨gv, cu, cur, hv, _⟩
      · exact .inl h1
      · exact .inr ⟨⟨gv, 0, none⟩, cu, by rw [hv, hn]⟩
    obtain ⟨av, cu, rfl⟩ : ∃ av cu, vu = .slice av 0 cu := by
      rcases hv with rfl | ⟨ad, cu, rfl⟩
      · exact ⟨none, 0, rfl⟩
      · exact ⟨some ad, cu, rfl⟩
    clear hv hd
    go_enter Tryz.func112, Tryz.ntmps112
    go_wp2_with fail
    refine wp_loop_rounds 1 ?_
    rw [rounds_succ]
    go_wp2
    go_end0
    exact ⟨rfl, hi, Upd.refl _ _⟩
end Go.Proofs.YtnldkpckojhbhaaGreat.Dk

/-
  Flush, Image.
-/
namespace Go.Proofs.YtnldkpckojhbhaaGreat.Dk
open Go.RowKit

theorem Lies.emptied {w w1 : World} {g : Nat} {D : DS} {F : Nat → Prop} {gd cd : Nat} {vu : Value} {ps : List (Nat × Nat × Nat)} (h : Lies w g D F gd cd vu ps) (d : List UInt8) (hu : Upd (fun i => i = gd) w w1) (hr : RowB w1 gd cd d) (hl : d.length = D.dur.length) :
    Lies (w1.setCell ⟨g, 2, none⟩ (.slice none 0 0)) g { D with dur := d, uf := [] } F gd cd (.slice none 0 0) [] ∧ Upd F w (w1.setCell ⟨g, 2, none⟩ (.slice none 0 0)) := by
  have hne : g ≠ gd := by
    obtain ⟨cur, hb, _⟩ := h.dur
    exact h.box.ne hb (by decide)
  have b1 := hu.box h.box hne
  have b2 := b1.store 2 (.slice none 0 0)
  have gr := grown_store w1 g 2 (.slice none 0 0)
  refine ⟨⟨b2, hr.same (gr.block gd hr.lt (by simpa using hne.symm)), World.ownsRow_nil _ _ _ _, rfl, fun k hk => by simp at hk, h.fg, h.fd, fun k hk => by simp [Value.ownBlock] at hk, fun i hi => Nat.lt_of_lt_of_le (h.flt i hi) (Nat.le_trans hu.size gr.size), ?_⟩, ?_⟩
  · exact ⟨by show d.length = _; rw [hl, h.ok.len], h.ok.lo, h.ok.hi, by simp, h.ok.arm, h.ok.fail⟩
  · have u0 : Upd F w w1 := ⟨hu.os, hu.tape, hu.output, hu.size, fun k hk hn => hu.block k hk (fun e => hn (by rw [e]; exact h.fd))⟩
    exact u0.setCell (.inl h.fg) _

set_option maxRecDepth 100000 in
theorem flush_at {g : Nat} {w : World} {D : DS} {F : Nat → Prop} (hd : IsDisk w g D F) :
    Calls Tryz.prog 115 #[.pointer (some ⟨g, 0, none⟩)] w fun e w' => e = .returned (.int .i64 (D.operE : Int)) ∧ IsDisk w' g D.flush F ∧ Upd F w w' := by
  obtain ⟨gd, cd, vu, ps, h⟩ := hd
  have c := isMade_at h
  have hfl : Hid (D.flush = if D.operE = 0 then { D.oper with dur := D.image, uf := [] } else D.oper) := rfl
  have cO := operation_at h
  obtain ⟨E, hE⟩ : ∃ E, E = D.operE := ⟨_, rfl⟩
  rw [← hE] at hfl cO ⊢
  clear hE
  have hnb := D.oper_nb
  have hdur := D.oper_dur
  have huf := D.oper_uf
  have hfg := h.fg
  have himg : Hid (D.image = carryTo D.uf D.dur D.uf.length) := rfl
  generalize D.flush = Fl at hfl ⊢
  have Hnb : Hid _ := hnb
  have Hdur : Hid _ := hdur
  have Huf : Hid _ := huf
  clear hnb hdur huf
  by_cases h0 : E = 0
  · subst h0
    have hfl' : Hid (Fl = { D.oper with dur := D.image, uf := [] }) := by have := hfl.out; rw [if_pos rfl] at this; exact this
    clear hfl
    go_enter Tryz.func115, Tryz.ntmps115
    go_wp2_with fail
    refine c.mono ?_
    rintro e w' ⟨rfl, rfl⟩
    go_wp2_with fail
    refine cO.mono ?_
    rintro e w1 ⟨rfl, h1, g1⟩
    clear cO c
    obtain ⟨_, c1, _⟩ := box_cells h1.box
    have hneq : ∀ k (hk : k < ps.length), ps[k].2.1 ≠ gd := fun k hk => (h1.each k hk (by rw [← h1.len]; exact hk)).2.2.1
    go_wp2_with fail
    refine (carryAll_at h1 gd cd (D.oper.nb * 4096) D.oper.dur h1.dur rfl (by rw [h1.ok.len]) hneq).mono ?_
    rintro e w2 ⟨rfl, r2, u2⟩
    have hlen : (carryTo D.oper.uf D.oper.dur D.oper.uf.length).length = D.oper.dur.length := carryTo_length D.oper h1.ok D.oper.dur rfl _
    obtain ⟨hl, hu⟩ := h1.emptied _ u2 r2 hlen
    have hu0 : Upd F w w1 := (Upd.refl F w).grown g1 (fun k e => by cases e; exact .inl hfg)
    have hu3 := hu0.trans hu (fun i hi => .inl hi)
    rw [Huf.out, Hdur.out, ← himg.out] at hl
    have b2 : Box w2 g _ 134 := u2.box h1.box (by
      obtain ⟨cur, hb, _⟩ := h1.dur
      exact h1.box.ne hb (by decide))
    have f2 := b2.frozen 2
    obtain ⟨_, _, c2, _⟩ := box_cells b2
    clear c1 r2 u2 hu hu0 b2 h1 g1 hlen
    go_wp2
    go_ret
    rw [hfl'.out]
    exact ⟨rfl, ⟨_, _, _, _, hl⟩, hu3⟩
  · have hfl' : Hid (Fl = D.oper) := by have := hfl.out; rw [if_neg h0] at this; exact this
    have h0' : ((E : Int) != 0) = true := by simp; omega
    clear hfl h0
    go_enter Tryz.func115, Tryz.ntmps115
    go_wp2_with fail
    refine c.mono ?_
    rintro e w' ⟨rfl, rfl⟩
    go_wp2_with fail
    refine cO.mono ?_
    rintro e w1 ⟨rfl, h1, g1⟩
    have hu0 : Upd F w w1 := (Upd.refl F w).grown g1 (fun k e => by cases e; exact .inl hfg)
    clear cO c
    go_wp2
    go_ret
    rw [hfl'.out]
    exact ⟨rfl, ⟨_, _, _, _, h1⟩, hu0⟩

end Go.Proofs.YtnldkpckojhbhaaGreat.Dk

/-
  Crash.
-/
namespace Go.Proofs.YtnldkpckojhbhaaGreat.Dk
open Go.RowKit

def RdBl (w : World) (a : Option Addr) (ks : List Bool) : Prop :=
  0 < ks.length → ∃ b o, a = some ⟨b, o, none⟩ ∧ ∀ j (h : j < ks.length), w.cell? ⟨b, o + j, none⟩ = some (.bool ks[j])
theorem RdBl.nil (w : World) (a : Option Addr) : RdBl w a [] := fun h => absurd h (by simp)

theorem keeps_lt {ks : List Bool} {k : Nat} (h : k < ks.length) : keeps ks k = ks[k] := by simp [keeps, List.getElem?_eq_getElem h]
theorem keeps_ge {ks : List Bool} {k : Nat} (h : ¬ k < ks.length) : keeps ks k = false := by simp [keeps, List.getElem?_eq_none (Nat.le_of_not_lt h)]

set_option maxRecDepth 100000 in
set_option maxHeartbeats 4000000 in
theorem crashLoop {g : Nat} {w : World} {D : DS} {F : Nat → Prop} {gd cd : Nat} {vu : Value} {ps : List (Nat × Nat × Nat)} (h : Lies w g D F gd cd vu ps) (h0 : 0 < D.uf.length) (ak : Option Addr) (nk ck0 : Nat) (ks : List Bool) (torn : Int) (m : Nat) (hm : m < 256) (hks : ks.length = nk) (hnk : nk ≤ 9223372036854775807) (hrk : RdBl w ak ks) (hkF : ∀ ad, ak = some ad → 0 < nk → ¬ F ad.block) :
    Calls Tryz.prog 18 #[.pointer (some ⟨g, 0, none⟩), .slice ak nk ck0, .int .i64 torn, .int .u8 (m : Int)] w fun e w' => e = .returned (.int .i64 0) ∧ IsDisk w' g (D.crash ks torn m) F ∧ Upd F w w' := by
  have c := isMade_at h
  obtain ⟨_, c1, c2, _⟩ := box_cells h.box
  obtain ⟨gv, cu, cur, rfl, hcu, hmu, hbv, hcells⟩ := h.writes h0
  have hgi : gv ≠ gd := by
    obtain ⟨cur', hb', _⟩ := h.dur
    exact hbv.ne hb' (by decide)
  have hgd : g ≠ gd := by
    obtain ⟨cur', hb', _⟩ := h.dur
    exact h.box.ne hb' (by decide)
  have Hcells : Hid _ := hcells
  have hlt := hbv.lt
  have hglt := h.box.lt
  have Hks : Hid _ := hks
  have hdr := h.dur
  have H : Hid (Lies w g D F gd cd (.slice (some ⟨gv, 0, none⟩) D.uf.length cu) ps) := h
  obtain ⟨n, hn⟩ : ∃ n, n = D.uf.length := ⟨_, rfl⟩
  rw [← hn] at hcu c2
  obtain ⟨L, hL⟩ : ∃ L, L = D.nb * 4096 := ⟨_, rfl⟩
  rw [← hL] at c1
  have HL : Hid _ := hL
  have Hn : Hid _ := hn
  have hkb : ∀ k, k < nk → ∃ b o, ak = some ⟨b, o, none⟩ ∧ b < w.heap.size ∧ b ≠ gd ∧ ∀ j (h : j < ks.length), w.cell? ⟨b, o + j, none⟩ = some (.bool ks[j]) := fun k hk => by
    obtain ⟨b, o, hab, hc⟩ := hrk (by omega)
    refine ⟨b, o, hab, block_lt_of_cell (hc k (by omega)), fun e => ?_, hc⟩
    exact hkF _ hab (by omega) (by show F b; rw [e]; exact h.fd)
  have Hkb : Hid _ := hkb
  clear hcells h hn h0 hks hrk hL hkb
  go_enter Tryz.func18, Tryz.ntmps18
  go_wp2_with fail
  refine c.mono ?_
  rintro e w' ⟨rfl, rfl⟩
  clear c
  go_wp2_with fail
  go_loopw [19] (fun i wr => ∃ k : Nat, k ≤ n ∧ i = .int .i64 k ∧ RowB wr gd cd (crashTo ks torn m D.uf D.dur k) ∧ Upd (fun i => i = gd) w wr) (fun i _ => n - (intOf i).toNat)
  case atStart => exact ⟨0, Nat.zero_le _, rfl, hdr, Upd.refl _ _⟩
  case round =>
    obtain ⟨k, hk, rfl, hrow, U⟩ := hrel
    clear hdr
    by_cases hlt' : k < n
    · have hk' : k < D.uf.length := by rw [← Hn.out]; exact hlt'
      have hkp : k < ps.length := by rw [H.out.len]; exact hk'
      obtain ⟨a0, a1⟩ := Hcells.out k hk' hkp
      obtain ⟨_, hdat, hps, _⟩ := H.out.each k hkp hk'
      obtain ⟨hb1, hb2⟩ := H.out.ok.at k hk'
      have hsucc : Hid _ := crashTo_succ ks torn m D.uf D.dur k hk'
      have hlen : Hid ((crashTo ks torn m D.uf D.dur k).length = L) := by rw [crashTo_length D H.out.ok ks torn m k, H.out.ok.len]; exact HL.out.symm
      have hroom : D.uf[k].1 * 4096 + 4096 ≤ L := by rw [HL.out]; omega
      generalize (ps[k]'hkp).2.1 = gk at a1 hdat hps
      generalize (ps[k]'hkp).2.2 = ck at a1 hdat
      generalize (D.uf[k]'hk').2 = data at hdat hb2 hsucc
      generalize (D.uf[k]'hk').1 = bn at a0 hsucc hb1 hroom
      have a0' := (World.cell?_of_block (a := ⟨gv, 0 + k * 2, none⟩) (U.block gv hlt hgi)).trans a0
      have a1' := (World.cell?_of_block (a := ⟨gv, 0 + k * 2 + 1, none⟩) (U.block gv hlt hgi)).trans a1
      have d1 := (World.cell?_of_block (a := ⟨g, 1, none⟩) (U.block g hglt hgd)).trans c1
      simp only [Nat.zero_add] at a0' a1'
      have hdat' := U.rowB hdat hps
      have bA := (Below.refl wr.heap.size wr).alloc (Nat.le_refl _) (.cells #[.int .i64 (bn : Int), .slice (some ⟨gk, 0, none⟩) 4096 ck] 136)
      have U1 := (U.alloc (.cells #[.int .i64 (bn : Int), .slice (some ⟨gk, 0, none⟩) 4096 ck] 136)).drew
      have xb := Box.new wr #[.int .i64 (bn : Int), .slice (some ⟨gk, 0, none⟩) 4096 ck] 136
      have hrow1 := hrow.same (bA.block gd hrow.lt)
      have hdat1 := hdat'.same (bA.block gk hdat'.lt)
      have hgr : g < wr.heap.size := Nat.lt_of_lt_of_le hglt U.size
      replace d1 := (bA.cell (p := ⟨g, 1, none⟩) hgr).trans d1
      have hGd : wr.heap.size ≠ gd := fun e => by have := hrow.lt; omega
      have hkc : k < nk → ∃ b o, ak = some ⟨b, o, none⟩ ∧ (wr.alloc (.cells #[.int .i64 (bn : Int), .slice (some ⟨gk, 0, none⟩) 4096 ck] 136)).cell? ⟨b, o + k, none⟩ = some (.bool (keeps ks k)) := fun hk9 => by
        obtain ⟨b, o, hab, hbl, hbg, hc⟩ := Hkb.out k hk9
        refine ⟨b, o, hab, ?_⟩
        rw [keeps_lt (by rw [Hks.out]; exact hk9)]
        exact (bA.cell (p := ⟨b, o + k, none⟩) (Nat.lt_of_lt_of_le hbl U.size)).trans ((World.cell?_of_block (a := ⟨b, o + k, none⟩) (U.block b hbl hbg)).trans (hc k (by rw [Hks.out]; exact hk9)))
      have Hb2 : Hid _ := hb2
      have hgV : g < (wr.alloc (.cells #[.int .i64 (bn : Int), .slice (some ⟨gk, 0, none⟩) 4096 ck] 136)).heap.size := Nat.lt_of_lt_of_le hgr bA.size
      clear a0 a1 hdat hdat' hb2
      obtain ⟨V, hV⟩ : ∃ V, V = wr.alloc (.cells #[.int .i64 (bn : Int), .slice (some ⟨gk, 0, none⟩) 4096 ck] 136) := ⟨_, rfl⟩
      obtain ⟨G, hG⟩ : ∃ G, G = wr.heap.size := ⟨_, rfl⟩
      rw [← hV] at U1 xb hrow1 hdat1 d1 hkc hgV
      rw [← hG] at xb hGd
      have HV : Hid _ := hV
      have HG : Hid _ := hG
      have U1' : Upd (fun i => i = gd) w V := by rw [hV]; exact U.alloc _
      clear hV hG bA
      by_cases ht : (k : Int) = torn
      · have hs : Hid (crashTo ks torn m D.uf D.dur (k + 1) = carry (crashTo ks torn m D.uf D.dur k) bn data m) := by have := hsucc.out; rw [if_pos ht] at this; exact this
        have ht' : ((k : Int) == torn) = true := by simpa using ht
        clear hsucc ht hkc U1'
        go_upto_region 7 with fail
        rw [← HV.out, ← HG.out]
        clear HV HG
        refine wp_region_any (by kernel_rfl) ?_
        change wpAny _ _ _ _ _ _ _ (World.drew _)
        refine wpAny_take (i := 1) (v := ?_) rfl (by kernel_rfl) (by kernel_rfl) (by kernel_rfl) (fun _ _ _ h => h) (Or.inl ⟨by rfl, ?_⟩) ?_
        rotate_left
        · intro w
          go_simp
          with_reducible rfl
        refine wpAny_take (i := 2) (v := ?_) rfl (by kernel_rfl) (by kernel_rfl) (by kernel_rfl) (fun _ _ _ h => h) (Or.inl ⟨by rfl, ?_⟩) ?_
        rotate_left
        · intro w
          go_simp
          with_reducible rfl
        refine wpAny_take (i := 3) (v := ?_) rfl (by kernel_rfl) (by kernel_rfl) (by kernel_rfl) (fun _ _ _ h => h) (Or.inl ⟨by rfl, ?_⟩) ?_
        rotate_left
        · intro w
          go_simp
          with_reducible rfl
        refine wpAny_take (i := 5) (v := ?_) rfl (by kernel_rfl) (by kernel_rfl) (by kernel_rfl) (fun _ _ _ h => h) (Or.inl ⟨by rfl, ?_⟩) ?_
        rotate_left
        · intro w
          go_simp
          with_reducible rfl
        simp only [Act.put, List.setIfInBounds_toArray, List.set_cons_zero, List.set_cons_succ, List.getElem_toArray, List.getElem_cons_zero, List.getElem_cons_succ]
        refine wpAny_of_class (C := SlotsCells [(10, .pointer (some ⟨G, 0, none⟩)), (31, .pointer (some ⟨g, 1, none⟩))] [(⟨G, 0, none⟩, .int .i64 (bn : Int)), (⟨G, 1, none⟩, .slice (some ⟨gk, 0, none⟩) 4096 ck), (⟨g, 1, none⟩, .slice (some ⟨gd, 0, none⟩) L cd)]) _ _ _ _ ?_
        have hC : ∀ q ∈ ([(⟨G, 0, none⟩, .int .i64 (bn : Int)), (⟨G, 1, none⟩, .slice (some ⟨gk, 0, none⟩) 4096 ck), (⟨g, 1, none⟩, .slice (some ⟨gd, 0, none⟩) L cd)] : List (Addr × Value)), V.drew.cell? q.1 = some q.2 := by
          intro q hq
          simp at hq
          rcases hq with rfl | rfl | rfl
          · exact xb.cell 0
          · exact xb.cell 1
          · exact d1
        refine wpAnyC_take (i := 0) (v := .agg #[.int .i64 (bn : Int), .slice (some ⟨gk, 0, none⟩) 4096 ck]) rfl (by kernel_rfl) (by kernel_rfl) (by kernel_rfl) (fun _ _ _ h => h) ?_ (fun fr u h => (SlotsCells.put 28 _ (by rfl)).1 h) (fun fr u h => (SlotsCells.put 28 _ (by rfl)).2 h) ?_ ?_
        · intro fr u hh
          obtain ⟨e1, e2⟩ := hh.load (s := 10) (p := ⟨G, 0, none⟩) (v := .int .i64 (bn : Int)) (by simp) (by simp)
          have e3 := hh.2 (⟨G, 1, none⟩, .slice (some ⟨gk, 0, none⟩) 4096 ck) (by simp)
          dsimp only at e3
          exact ⟨rfl, by simp [execOp, e1, go_sem, e2, e3]⟩
        · refine ⟨fun p hp => ?_, hC⟩
          simp at hp
          rcases hp with rfl | rfl <;> rfl
        simp only [Act.put, List.setIfInBounds_toArray, List.set_cons_zero, List.set_cons_succ, List.getElem_toArray, List.getElem_cons_zero]
        refine wpAnyC_take (i := 4) (v := .slice (some ⟨gd, 0, none⟩) L cd) rfl (by kernel_rfl) (by kernel_rfl) (by kernel_rfl) (fun _ _ _ h => h) ?_ (fun fr u h => (SlotsCells.put 32 _ (by rfl)).1 h) (fun fr u h => (SlotsCells.put 32 _ (by rfl)).2 h) ?_ ?_
        · intro fr u hh
          obtain ⟨e1, e2⟩ := hh.load (s := 31) (p := ⟨g, 1, none⟩) (v := .slice (some ⟨gd, 0, none⟩) L cd) (by simp) (by simp)
          exact ⟨rfl, by simp [execOp, e1, go_sem, e2]⟩
        · refine ⟨fun p hp => ?_, hC⟩
          simp at hp
          rcases hp with rfl | rfl <;> rfl
        simp only [Act.put, List.setIfInBounds_toArray, List.set_cons_zero, List.set_cons_succ, List.getElem_toArray, List.getElem_cons_zero, List.getElem_cons_succ]
        refine wpAnyC_one (i := 6) (by kernel_rfl) rfl (fun K hK => ?_)
        go_simp
        refine (carryOut_at bn gk ck gd cd L m data (crashTo ks torn m D.uf D.dur k) V.drew hdat1 hrow1 hps Hb2.out hlen.out hroom (by omega)).mono ?_
        rintro e w1 ⟨rfl, r1, u1⟩
        have U2 := U1.trans u1 (fun i e => .inl e)
        have d1' := (World.cell?_of_block (a := ⟨g, 1, none⟩) (u1.block g hgV hgd)).trans d1
        have xb' := u1.box xb hGd
        refine hK _ _ ⟨?_, ?_⟩
        · refine ⟨fun p hp => ?_, fun q hq => ?_⟩
          · simp at hp
            rcases hp with rfl | rfl <;> rfl
          · simp at hq
            rcases hq with rfl | rfl | rfl
            · exact xb'.cell 0
            · exact xb'.cell 1
            · exact d1'
        clear hK K hC
        refine wpAnyC_done (by kernel_rfl) ?_ _
        clear xb xb' d1' hrow1 hdat1 U1 u1
        go_wp2
        go_roundw
        case rel => exact ⟨k + 1, by omega, by go_num, by rw [hs.out]; exact r1, U2⟩
        case measure => simp [intOf]; omega
      · have hs0 : Hid (crashTo ks torn m D.uf D.dur (k + 1) = if keeps ks k then carry (crashTo ks torn m D.uf D.dur k) bn data 255 else crashTo ks torn m D.uf D.dur k) := by have := hsucc.out; rw [if_neg ht] at this; exact this
        have ht' : ((k : Int) == torn) = false := by simpa using ht
        clear hsucc ht
        by_cases hkn : k < nk
        · obtain ⟨b, o, rfl, hcell⟩ := hkc hkn
          have hkn' : (k : Int) < (nk : Int) := by omega
          clear hkc
          cases hkeep : keeps ks k with
          | true =>
            have hs : Hid (crashTo ks torn m D.uf D.dur (k + 1) = carry (crashTo ks torn m D.uf D.dur k) bn data 255) := by have := hs0.out; rw [hkeep] at this; exact this
            rw [hkeep] at hcell
            clear hs0 U1'
            go_upto_region 6 with fail
            rw [← HV.out, ← HG.out]
            go_upto_region 9 with fail
            clear HV HG hcell
            refine wp_region_any (by kernel_rfl) ?_
            change wpAny _ _ _ _ _ _ _ (World.drew _)
            refine wpAny_take (i := 1) (v := ?_) rfl (by kernel_rfl) (by kernel_rfl) (by kernel_rfl) (fun _ _ _ h => h) (Or.inl ⟨by rfl, ?_⟩) ?_
            rotate_left
            · intro w
              go_simp
              with_reducible rfl
            refine wpAny_take (i := 2) (v := ?_) rfl (by kernel_rfl) (by kernel_rfl) (by kernel_rfl) (fun _ _ _ h => h) (Or.inl ⟨by rfl, ?_⟩) ?_
            rotate_left
            · intro w
              go_simp
              with_reducible rfl
            refine wpAny_take (i := 3) (v := ?_) rfl (by kernel_rfl) (by kernel_rfl) (by kernel_rfl) (fun _ _ _ h => h) (Or.inl ⟨by rfl, ?_⟩) ?_
            rotate_left
            · intro w
              go_simp
              with_reducible rfl
            simp only [Act.put, List.setIfInBounds_toArray, List.set_cons_zero, List.set_cons_succ, List.getElem_toArray, List.getElem_cons_zero, List.getElem_cons_succ]
            refine wpAny_of_class (C := SlotsCells [(10, .pointer (some ⟨G, 0, none⟩)), (49, .pointer (some ⟨g, 1, none⟩))] [(⟨G, 0, none⟩, .int .i64 (bn : Int)), (⟨G, 1, none⟩, .slice (some ⟨gk, 0, none⟩) 4096 ck), (⟨g, 1, none⟩, .slice (some ⟨gd, 0, none⟩) L cd)]) _ _ _ _ ?_
            have hC : ∀ q ∈ ([(⟨G, 0, none⟩, .int .i64 (bn : Int)), (⟨G, 1, none⟩, .slice (some ⟨gk, 0, none⟩) 4096 ck), (⟨g, 1, none⟩, .slice (some ⟨gd, 0, none⟩) L cd)] : List (Addr × Value)), V.drew.cell? q.1 = some q.2 := by
              intro q hq
              simp at hq
              rcases hq with rfl | rfl | rfl
              · exact xb.cell 0
              · exact xb.cell 1
              · exact d1
            refine wpAnyC_take (i := 0) (v := .agg #[.int .i64 (bn : Int), .slice (some ⟨gk, 0, none⟩) 4096 ck]) rfl (by kernel_rfl) (by kernel_rfl) (by kernel_rfl) (fun _ _ _ h => h) ?_ (fun fr u h => (SlotsCells.put 46 _ (by rfl)).1 h) (fun fr u h => (SlotsCells.put 46 _ (by rfl)).2 h) ?_ ?_
            · intro fr u hh
              obtain ⟨e1, e2⟩ := hh.load (s := 10) (p := ⟨G, 0, none⟩) (v := .int .i64 (bn : Int)) (by simp) (by simp)
              have e3 := hh.2 (⟨G, 1, none⟩, .slice (some ⟨gk, 0, none⟩) 4096 ck) (by simp)
              dsimp only at e3
              exact ⟨rfl, by simp [execOp, e1, go_sem, e2, e3]⟩
            · refine ⟨fun p hp => ?_, hC⟩
              simp at hp
              rcases hp with rfl | rfl <;> rfl
            simp only [Act.put, List.setIfInBounds_toArray, List.set_cons_zero, List.set_cons_succ, List.getElem_toArray, List.getElem_cons_zero]
            refine wpAnyC_take (i := 4) (v := .slice (some ⟨gd, 0, none⟩) L cd) rfl (by kernel_rfl) (by kernel_rfl) (by kernel_rfl) (fun _ _ _ h => h) ?_ (fun fr u h => (SlotsCells.put 50 _ (by rfl)).1 h) (fun fr u h => (SlotsCells.put 50 _ (by rfl)).2 h) ?_ ?_
            · intro fr u hh
              obtain ⟨e1, e2⟩ := hh.load (s := 49) (p := ⟨g, 1, none⟩) (v := .slice (some ⟨gd, 0, none⟩) L cd) (by simp) (by simp)
              exact ⟨rfl, by simp [execOp, e1, go_sem, e2]⟩
            · refine ⟨fun p hp => ?_, hC⟩
              simp at hp
              rcases hp with rfl | rfl <;> rfl
            simp only [Act.put, List.setIfInBounds_toArray, List.set_cons_zero, List.set_cons_succ, List.getElem_toArray, List.getElem_cons_zero, List.getElem_cons_succ]
            refine wpAnyC_one (i := 5) (by kernel_rfl) rfl (fun K hK => ?_)
            go_simp
            refine (carryOut_at bn gk ck gd cd L 255 data (crashTo ks torn m D.uf D.dur k) V.drew hdat1 hrow1 hps Hb2.out hlen.out hroom (by omega)).mono ?_
            rintro e w1 ⟨rfl, r1, u1⟩
            have U2 := U1.trans u1 (fun i e => .inl e)
            have d1' := (World.cell?_of_block (a := ⟨g, 1, none⟩) (u1.block g hgV hgd)).trans d1
            have xb' := u1.box xb hGd
            refine hK _ _ ⟨?_, ?_⟩
            · refine ⟨fun p hp => ?_, fun q hq => ?_⟩
              · simp at hp
                rcases hp with rfl | rfl <;> rfl
              · simp at hq
                rcases hq with rfl | rfl | rfl
                · exact xb'.cell 0
                · exact xb'.cell 1
                · exact d1'
            clear hK K hC
            refine wpAnyC_done (by kernel_rfl) ?_ _
            clear xb xb' d1' hrow1 hdat1 U1 u1
            go_wp2
            go_roundw
            case rel => exact ⟨k + 1, by omega, by go_num, by rw [hs.out]; exact r1, U2⟩
            case measure => simp [intOf]; omega
          | false =>
            have hs : Hid (crashTo ks torn m D.uf D.dur (k + 1) = crashTo ks torn m D.uf D.dur k) := by have := hs0.out; rw [hkeep] at this; exact this
            rw [hkeep] at hcell
            clear hs0 U1
            go_upto_region 6 with fail
            rw [← HV.out, ← HG.out]
            go_wp2
            go_roundw
            case rel => exact ⟨k + 1, by omega, by go_num, by rw [hs.out]; exact hrow1, U1'⟩
            case measure => simp [intOf]; omega
        · have hs : Hid (crashTo ks torn m D.uf D.dur (k + 1) = crashTo ks torn m D.uf D.dur k) := by have := hs0.out; rw [keeps_ge (by rw [Hks.out]; exact hkn)] at this; exact this
          have hkn' : ¬ (k : Int) < (nk : Int) := by omega
          clear hs0 U1 hkc
          go_upto_region 6 with fail
          rw [← HV.out, ← HG.out]
          go_wp2
          go_roundw
          case rel => exact ⟨k + 1, by omega, by go_num, by rw [hs.out]; exact hrow1, U1'⟩
          case measure => simp [intOf]; omega
    · obtain rfl : k = n := by omega
      obtain ⟨hl, hu⟩ := H.out.emptied _ U hrow (by rw [crashTo_length D H.out.ok])
      have b2 := U.box H.out.box hgd
      have b3 := b2.store 2 (.slice none 0 0)
      have b4 := ((((b3.store 4 (.bool false)).store 5 (.bool false)).store 6 (.int .i64 0)).store 7 (.bool false)).store 8 (.int .i64 0)
      have gr := grown_trans (grown_trans (grown_trans (grown_trans (grown_store (wr.setCell ⟨g, 2, none⟩ (.slice none 0 0)) g 4 (.bool false)) (grown_store _ g 5 (.bool false))) (grown_store _ g 6 (.int .i64 0))) (grown_store _ g 7 (.bool false))) (grown_store _ g 8 (.int .i64 0))
      have hcr : D.crash ks torn m = { D with dur := crashTo ks torn m D.uf D.dur k, uf := [], gone := false, arm := ⟨false, 0⟩, fail := ⟨false, 0⟩ } := by unfold DS.crash; rw [Hn.out]
      have hl2 := hl.turned (D' := D.crash ks torn m) gr (by rw [hcr]; exact b4) (by rw [hcr]) (by rw [hcr]) (H.out.ok.crash ks torn m)
      have hu2 : Upd F w _ := hu.grown gr (fun q e => by cases e; exact .inl H.out.fg)
      have f2 := b2.frozen 2
      obtain ⟨_, _, k2, _, k4, k5, k6, k7, k8⟩ := box_cells b2
      have f4 := b3.frozen 4
      have f5 := b3.frozen 5
      have f6 := b3.frozen 6
      have f7 := b3.frozen 7
      have f8 := b3.frozen 8
      clear b2 b3 b4 gr hcr hl hu
      go_wp2
      go_ret
      exact ⟨rfl, ⟨_, _, _, _, hl2⟩, hu2⟩

theorem crash_none {g : Nat} {w : World} {D : DS} {F : Nat → Prop} {gd cd : Nat} {vu : Value} {ps : List (Nat × Nat × Nat)} (h : Lies w g D F gd cd vu ps) (h0 : D.uf.length = 0) (ak : Option Addr) (nk ck0 : Nat) (ks : List Bool) (torn : Int) (m : Nat) :
    Calls Tryz.prog 18 #[.pointer (some ⟨g, 0, none⟩), .slice ak nk ck0, .int .i64 torn, .int .u8 (m : Int)] w fun e w' => e = .returned (.int .i64 0) ∧ IsDisk w' g (D.crash ks torn m) F ∧ Upd F w w' := by
  have c := isMade_at h
  obtain ⟨av, cu, rfl⟩ : ∃ av cu, vu = .slice av 0 cu := by
    rcases h.row.2 with ⟨h1, _⟩ | ⟨gv, cu, cur, hv, _⟩
    · exact ⟨none, 0, h1⟩
    · exact ⟨some ⟨gv, 0, none⟩, cu, by rw [hv, h0]⟩
  have hcr : D.crash ks torn m = { D with dur := D.dur, uf := [], gone := false, arm := ⟨false, 0⟩, fail := ⟨false, 0⟩ } := by unfold DS.crash; rw [h0]; rfl
  obtain ⟨hl, hu⟩ := h.emptied D.dur (Upd.refl _ _) h.dur rfl
  have b2 := h.box
  have b3 := b2.store 2 (.slice none 0 0)
  have b4 := ((((b3.store 4 (.bool false)).store 5 (.bool false)).store 6 (.int .i64 0)).store 7 (.bool false)).store 8 (.int .i64 0)
  have gr := grown_trans (grown_trans (grown_trans (grown_trans (grown_store (w.setCell ⟨g, 2, none⟩ (.slice none 0 0)) g 4 (.bool false)) (grown_store _ g 5 (.bool false))) (grown_store _ g 6 (.int .i64 0))) (grown_store _ g 7 (.bool false))) (grown_store _ g 8 (.int .i64 0))
  have hl2 := hl.turned (D' := D.crash ks torn m) gr (by rw [hcr]; exact b4) (by rw [hcr]) (by rw [hcr]) (h.ok.crash ks torn m)
  have hu2 : Upd F w _ := hu.grown gr (fun q e => by cases e; exact .inl h.fg)
  have f2 := b2.frozen 2
  obtain ⟨_, _, k2, _, k4, k5, k6, k7, k8⟩ := box_cells b2
  have f4 := b3.frozen 4
  have f5 := b3.frozen 5
  have f6 := b3.frozen 6
  have f7 := b3.frozen 7
  have f8 := b3.frozen 8
  clear b2 b3 b4 gr hcr hl hu h0
  go_enter Tryz.func18, Tryz.ntmps18
  go_wp2_with fail
  refine c.mono ?_
  rintro e w' ⟨rfl, rfl⟩
  go_wp2_with fail
  refine wp_loop_rounds 1 ?_
  rw [rounds_succ]
  go_wp2
  go_ret
  exact ⟨rfl, ⟨_, _, _, _, hl2⟩, hu2⟩

theorem crash_at {g : Nat} {w : World} {D : DS} {F : Nat → Prop} (hd : IsDisk w g D F) (ak : Option Addr) (nk ck0 : Nat) (ks : List Bool) (torn : Int) (m : Nat) (hm : m < 256) (hks : ks.length = nk) (hnk : nk ≤ 9223372036854775807) (hrk : RdBl w ak ks) (hkF : ∀ ad, ak = some ad → 0 < nk → ¬ F ad.block) :
    Calls Tryz.prog 18 #[.pointer (some ⟨g, 0, none⟩), .slice ak nk ck0, .int .i64 torn, .int .u8 (m : Int)] w fun e w' => e = .returned (.int .i64 0) ∧ IsDisk w' g (D.crash ks torn m) F ∧ Upd F w w' := by
  obtain ⟨gd, cd, vu, ps, h⟩ := hd
  by_cases h0 : 0 < D.uf.length
  · exact crashLoop h h0 ak nk ck0 ks torn m hm hks hnk hrk hkF
  · exact crash_none h (by omega) ak nk ck0 ks torn m
end Go.Proofs.YtnldkpckojhbhaaGreat.Dk

/-
  As Loads: but operations that wait for the taken one (late) may leave the class.
-/
namespace Go.Proofs.YtnldkpckojhbhaaGreat.Dk

section
variable {P : Program} {ops : Array Oper} {Q : Exit → Act → World → Prop} {md : Region.Mode} {C : Act → World → Prop} {late : List Nat}

def wpAnyD (P : Program) (md : Region.Mode) (ops : Array Oper) (Q : Exit → Act → World → Prop) (C : Act → World → Prop) (late : List Nat) : Nat → Array Bool → Act → World → Prop
  | 0, listed, a, w => Region.ready md ops listed = [] ∧ Q .normal a w
  | fuel + 1, listed, a, w => (Region.ready md ops listed = [] → Q .normal a w) ∧
    ∀ i ∈ Region.ready md ops listed, wpOp P ops Q i (fun a' w' => (late.contains i = true ∨ C a' w') ∧ wpAnyD P md ops Q C late fuel (listed.setIfInBounds i true) a' w') a w

theorem wpAny_of_late : ∀ (fuel : Nat) (listed : Array Bool) (a : Act) (w : World), wpAnyD P md ops Q C late fuel listed a w → wpAny P md ops Q fuel listed a w
  | 0, _, _, _, h => h
  | fuel + 1, _, _, _, h => ⟨h.1, fun i hi => wpOp_mono (fun a' w' h' => wpAny_of_late fuel _ a' w' h'.2) (h.2 i hi)⟩

def waits (md : Region.Mode) (ops : Array Oper) (late : List Nat) (i : Nat) : Bool := late.all fun j => match ops[j]? with | some o => o.after.any fun e => Region.binds md e && e.on == i | none => true

theorem wpAnyD_first {i : Nat} {oi : Oper} {v : Value} (hi : ops[i]? = some oi) (hs : Region.noSelect ops = true) (hl : waits md ops late i = true)
    (hQ : ∀ c a w, Q (.panic c) (a.put oi.dst v) w → Q (.panic c) a w) (hg : Gives P ops C oi v) (hdn : ∀ a w, C (a.put oi.dst v) w → C a w) (hup : ∀ a w, C a w → C (a.put oi.dst v) w) :
    ∀ (fuel : Nat) (listed : Array Bool) (a : Act) (w : World),
      (∀ j oj, ops[j]? = some oj → j ≠ i → listed.getD j true = false → (∀ e ∈ oj.after, Region.binds md e = true → e.on ≠ i) → oi.apart ops oj = true) →
      i ∈ Region.ready md ops listed → C a w →
      wpAnyD P md ops Q C late fuel (listed.setIfInBounds i true) (a.put oi.dst v) w → wpAnyD P md ops Q C late (fuel + 1) listed a w
  | fuel, listed, a, w, hfree, hr, hc, H => by
    refine ⟨fun h => (by rw [h] at hr; cases hr), fun j hj => ?_⟩
    by_cases hji : j = i
    · subst hji
      exact hg.wpOp hi hc ⟨.inr (hup a w hc), H⟩
    · have hm := ready_mono hj hji
      cases fuel with
      | zero =>
        rw [H.1] at hm
        cases hm
      | succ fuel =>
        obtain ⟨hjun, oj, hoj, hall⟩ := mem_ready.1 hj
        have hnot : ∀ e ∈ oj.after, Region.binds md e = true → e.on ≠ i := fun e he hb heq => by
          have h1 := hall e he hb
          have h0 := (mem_ready.1 hr).1
          rw [heq] at h1
          rcases Nat.lt_or_ge i listed.size with h' | h'
          · simp [h'] at h0 h1; rw [h0] at h1; cases h1
          · simp [Array.getElem?_eq_none h'] at h1
        have hnl : ¬ late.contains j = true := fun hc => by
          have h1 := (List.all_eq_true.1 hl) j (by simpa using hc)
          rw [hoj] at h1
          simp only [Array.any_eq_true, Bool.and_eq_true, beq_iff_eq] at h1
          obtain ⟨k, hk, hb, he⟩ := h1
          exact hnot _ (Array.getElem_mem hk) hb he
        have h2 := wpOp_put (oi := standIn oi v) (v := v) hoj (standIn_apart (hfree j oj hoj hji hjun hnot)) (fun cs b h => by cases h) (fun cs b => Region.noSelect_spec hs j oj cs b hoj) hQ (standIn_yields oi v a) (H.2 j hm)
        have hfree' : ∀ k ok, ops[k]? = some ok → k ≠ i → (listed.setIfInBounds j true).getD k true = false →
            (∀ e ∈ ok.after, Region.binds md e = true → e.on ≠ i) → oi.apart ops ok = true := fun k ok hk hki hun hno => by
          refine hfree k ok hk hki ?_ hno
          by_cases hjk : j = k
          · subst hjk; exact hjun
          · rw [getD_set_ne true hjk] at hun; exact hun
        refine wpOp_mono (fun a' w' h3 => ?_) h2
        have hc' := hdn a' w' (h3.2.1.resolve_left hnl)
        refine ⟨.inr hc', wpAnyD_first hi hs hl hQ hg hdn hup fuel (listed.setIfInBounds j true) a' w' hfree' (ready_mono hr (Ne.symm hji)) hc' ?_⟩
        rw [Array.setIfInBounds_comm _ _ hji]
        exact h3.2.2

theorem wpAnyD_take {i : Nat} {oi : Oper} {v : Value} {fuel : Nat} {listed : Array Bool} {a : Act} {w : World} (hi : ops[i]? = some oi) (hs : Region.noSelect ops = true) (hl : waits md ops late i = true)
    (hf : Region.free md ops listed i = true) (hr : (Region.ready md ops listed).contains i = true)
    (hQ : ∀ c a w, Q (.panic c) (a.put oi.dst v) w → Q (.panic c) a w) (hg : Gives P ops C oi v) (hdn : ∀ a w, C (a.put oi.dst v) w → C a w) (hup : ∀ a w, C a w → C (a.put oi.dst v) w)
    (hc : C a w) (h : wpAnyD P md ops Q C late fuel (listed.setIfInBounds i true) (a.put oi.dst v) w) : wpAnyD P md ops Q C late (fuel + 1) listed a w :=
  wpAnyD_first hi hs hl hQ hg hdn hup fuel listed a w (Region.free_spec hi hf) (by simpa using hr) hc h

theorem wpAnyD_one {i : Nat} {o : Oper} {fuel : Nat} {listed : Array Bool} {a : Act} {w : World} (hr : Region.ready md ops listed = [i]) (ho : ops[i]? = some o)
    (h : ∀ K' : Act → World → Prop, (∀ a w, ((late.contains i = true ∨ C a w) ∧ wpAnyD P md ops Q C late fuel (listed.setIfInBounds i true) a w) → K' a w) → if Region.wanted o (yielded ops a.tmps) = true then Oper.wp P o a w K' Q else K' (a.put o.dst undef) w) :
    wpAnyD P md ops Q C late (fuel + 1) listed a w := by
  refine ⟨fun h0 => (by rw [hr] at h0; cases h0), fun j hj => ?_⟩
  rw [hr] at hj
  obtain rfl : j = i := by simpa using hj
  exact wpOp_step ho h

theorem wpAnyD_done {listed : Array Bool} {a : Act} {w : World} (hr : Region.ready md ops listed = []) (h : Q .normal a w) : ∀ fuel, wpAnyD P md ops Q C late fuel listed a w
  | 0 => ⟨hr, h⟩
  | _ + 1 => ⟨fun _ => h, by rw [hr]; simp⟩
end
end Go.Proofs.YtnldkpckojhbhaaGreat.Dk

/-
  Write; Writes, Pending.
-/
namespace Go.Proofs.YtnldkpckojhbhaaGreat.Dk
open Go.RowKit

theorem info79 : (Tryz.prog.info? 136).map (fun i => (i.zero, i.size, i.bytes)) = some (some (.agg #[.int .i64 0, .slice none 0 0]), 2, 32) := by kernel_rfl

theorem append_where {P : Program} {w : World} {t ty e : TypeId} {i : TypeInfo} {z : Value} {size bytes : Nat} (ht : P.underlying t = some (.slice e)) (hi : P.info? e = some i) (hz : i.zero = some z) (hsize : i.size = size) (hby : i.bytes = bytes) (hzs : z.cells.size = size) (hsz : 0 < size)
    {v : Value} {n : Nat} {xs : List Value} (hown : w.ownsRow 0 e size v n xs) {ad : Addr} {m c : Nat} {news : List Value} (hl : news.length = m * size) (hnews : ∀ j u, news[j]? = some u → w.cell? (ad.add j) = some u) (h1 : ∀ u ∈ news, u.oneCell' = true)
    (h63 : n + m ≤ maxLen) (hbytes : (n + m) * bytes ≤ 140737488355328) :
    ∃ v' w', (Builtin.append_ #[t, t] ty #[v, .slice (some ad) m c]).run P w = .ok v' w' ∧ w'.ownsRow 0 e size v' (n + m) (xs ++ news) ∧ w.grownBy w' v.ownBlock ∧ (∀ k, v'.ownBlock = some k → v.ownBlock = some k ∨ w.heap.size ≤ k) := by
  obtain ⟨v', w', hr, h2, h3, _⟩ := run_append_own (P := P) w 0 t ty e i z size bytes ht hi hz hsize hby hzs hsz v n xs hown ad m c news hl hnews h1 h63 hbytes (Nat.zero_le _)
  refine ⟨v', w', hr, h2, h3, fun k hk => ?_⟩
  rcases hown.2 with ⟨rfl, rfl⟩ | ⟨g, cap, cur, rfl, hbg, hg, hnc, hcm, hcs, htake⟩
  · have hx : xs = [] := List.eq_nil_of_length_eq_zero (by simpa using hown.1)
    subst hx
    obtain ⟨v2, w2, hr2, o2, _⟩ := run_append_own (P := P) w w.heap.size t ty e i z size bytes ht hi hz hsize hby hzs hsz (.slice none 0 0) 0 [] (World.ownsRow_nil _ _ _ _) ad m c news hl hnews h1 h63 hbytes (Nat.le_refl _)
    rw [hr] at hr2
    simp only [Result.ok.injEq] at hr2
    obtain ⟨rfl, rfl⟩ := hr2
    exact .inr (o2.lt k hk).1
  · by_cases hroom : n + m ≤ cap
    · have hr2 := run_append_room (P := P) w t ty e i ht hi g n cap cur hg ad m c news (by rw [hsize]; exact hl) hnews h1 hroom (by rw [hsize, hl, hcs, ← Nat.add_mul]; exact Nat.mul_le_mul_right _ hroom)
      rw [hr] at hr2
      simp only [Result.ok.injEq] at hr2
      obtain ⟨rfl, _⟩ := hr2
      exact .inl hk
    · have hr2 := run_append_grow (P := P) w t ty e i z ht hi hz ⟨g, 0, none⟩ n cap xs (by rw [hsize]; exact hown.1) (hown.cells (g := g) rfl) ad m c news (by rw [hsize]; exact hl) hnews (by omega) (by simp only [maxLen] at h63; omega) (growslice_fits (by omega) (by rw [hby]; exact hbytes))
      rw [hr] at hr2
      simp only [Result.ok.injEq] at hr2
      obtain ⟨rfl, _⟩ := hr2
      simp [Value.ownBlock] at hk
      exact .inr (by omega)

theorem step_append_where {P : Program} {ops : Array Oper} {o : Oper} {a : Act} {w : World} {K : Act → World → Prop} {Q : Exit → Act → World → Prop} {E : Prop}
    (hg : o.guard = none) (s x : Operand) (t : TypeId) (hop : o.op = Op.call { callee := Callee.builtin Builtin.append, args := #[s, x], argTypes := #[t, t] })
    (e : TypeId) (i : TypeInfo) (z : Value) (size bytes : Nat) (h1 : P.underlying t = some (.slice e)) (h2 : P.info? e = some i) (h3 : i.zero = some z) (h4 : i.size = size) (h5 : i.bytes = bytes) (h6 : z.cells.size = size) (h7 : 0 < size)
    (v : Value) (n : Nat) (olds : List Value) (hs : a.eval s = v) (hown : w.ownsRow 0 e size v n olds)
    (ad : Addr) (m c : Nat) (news : List Value) (hx : a.eval x = .slice (some ad) m c) (hn : news.length = m * size) (hc : ∀ j u, news[j]? = some u → w.cell? (ad.add j) = some u) (h1c : ∀ u ∈ news, u.oneCell' = true)
    (b1 : n + m ≤ maxLen) (b2 : (n + m) * bytes ≤ 140737488355328)
    (hK : ∀ v' w', w'.ownsRow 0 e size v' (n + m) (olds ++ news) → w.grownBy w' v.ownBlock → (∀ k, v'.ownBlock = some k → v.ownBlock = some k ∨ w.heap.size ≤ k) → K (a.put o.dst v') w') :
    if Region.wanted o (yielded ops a.tmps) = true then Oper.wp P o a w K Q else E := by
  have hw : Region.wanted o (yielded ops a.tmps) = true := by simp [Region.wanted, hg]
  rw [if_pos hw]
  obtain ⟨v', w', hrun, r1, r2, r3⟩ := append_where (P := P) (ty := o.type) (c := c) h1 h2 h3 h4 h5 h6 h7 hown hn hc h1c b1 b2
  unfold Oper.wp
  simp [execOp, hop, resolve, invoke, builtin, hs, hx, hrun, Result.andThen]
  exact hK v' w' r1 r2 r3

theorem Lies.added {w w3 w4 : World} {g : Nat} {D : DS} {F : Nat → Prop} {gd cd : Nat} {vu v' : Value} {ps : List (Nat × Nat × Nat)} (h : Lies w g D F gd cd vu ps) (hb : Below w.heap.size w w3) (bn gk ck : Nat) (b : List UInt8) (hrow : RowB w3 gk ck b) (hgk : w.heap.size ≤ gk) (hbn : bn < D.nb) (hbl : b.length = 4096)
    (ho : w4.ownsRow 0 136 2 v' (D.uf.length + 1) (wcs (ps ++ [(bn, gk, ck)]))) (hg : w3.grownBy w4 vu.ownBlock) (hv : ∀ k, v'.ownBlock = some k → vu.ownBlock = some k ∨ w.heap.size ≤ k) :
    ∃ F' : Nat → Prop, Lies (w4.setCell ⟨g, 2, none⟩ v') g { D with uf := D.uf ++ [(bn, b)] } F' gd cd v' (ps ++ [(bn, gk, ck)]) ∧ (∀ i, F' i → F i ∨ w.heap.size ≤ i) ∧ Upd F w (w4.setCell ⟨g, 2, none⟩ v') ∧ Box w4 g (diskC g (.slice (some ⟨gd, 0, none⟩) (D.nb * 4096) cd) vu D) 134 := by
  have h3 := h.below hb
  have gr := grown_store w4 g 2 v'
  have nrow : ∀ {q : Nat} {cs : Array Value} {t : TypeId}, Box w3 q cs t → t ≠ 136 → some q ≠ vu.ownBlock := by
    intro q cs t hq ht e
    rcases h3.row.2 with ⟨rfl, _⟩ | ⟨gv, cu, cur, rfl, _, hgv, _⟩
    · simp [Value.ownBlock] at e
    · simp [Value.ownBlock] at e
      subst e
      exact Box.ne (w := w3) hq hgv ht rfl
  have hbox4 : Box w4 g _ 134 := (hg.block g h3.box.lt (nrow h3.box (by decide))).trans h3.box
  have hrowB : ∀ {q c : Nat} {ys : List UInt8}, RowB w3 q c ys → RowB (w4.setCell ⟨g, 2, none⟩ v') q c ys := by
    intro q c ys hq
    have hq0 := hq
    obtain ⟨cur, hb1, _⟩ := hq
    have h4 := hq0.same (hg.block q hb1.lt (nrow hb1 (by decide)))
    obtain ⟨cur4, hb4, _⟩ := h4
    exact (hq0.same (hg.block q hb1.lt (nrow hb1 (by decide)))).same (gr.block q hb4.lt (by simpa using hb4.ne hbox4 (by decide)))
  have hkg : gk ≠ gd := by have := h.dur.lt; omega
  have hok : DS.Ok { D with uf := D.uf ++ [(bn, b)] } := ⟨h.ok.len, h.ok.lo, h.ok.hi, fun p hp => by
    rcases List.mem_append.1 hp with hp | hp
    · exact h.ok.each p hp
    · simp at hp; subst hp; exact ⟨hbn, hbl⟩, h.ok.arm, h.ok.fail⟩
  refine ⟨fun i => F i ∨ i = gk ∨ v'.ownBlock = some i, ⟨hbox4.store 2 v', hrowB h3.dur, ?_, ?_, ?_, .inl h.fg, .inl h.fd, fun k hk => .inr (.inr hk), ?_, hok⟩, ?_, ?_⟩
  · have ho' := ho.kept gr (by
      rcases ho.2 with ⟨rfl, _⟩ | ⟨gv, cu, cur, rfl, _, hgv, _⟩
      · exact .inl rfl
      · exact .inr (by simp only [Value.ownBlock, ne_eq, Option.some.injEq]; exact Box.ne (w := w4) (t := 136) hgv hbox4 (by decide)))
    show World.ownsRow _ _ _ _ _ (D.uf ++ [(bn, b)]).length _
    rw [List.length_append]
    exact ho'
  · show (ps ++ [(bn, gk, ck)]).length = (D.uf ++ [(bn, b)]).length
    simp [h.len]
  · intro k h1 h2
    have hl := h.len
    by_cases hk : k < ps.length
    · have hk2 : k < D.uf.length := by omega
      obtain ⟨a1, a2, a3, a4⟩ := h3.each k hk hk2
      have e1 : (ps ++ [(bn, gk, ck)])[k] = ps[k] := List.getElem_append_left hk
      have e2 : (D.uf ++ [(bn, b)])[k]'(by simp; omega) = D.uf[k] := List.getElem_append_left hk2
      show (ps ++ [(bn, gk, ck)])[k].1 = ((D.uf ++ [(bn, b)])[k]'(by simp; omega)).1 ∧ RowB _ (ps ++ [(bn, gk, ck)])[k].2.1 (ps ++ [(bn, gk, ck)])[k].2.2 ((D.uf ++ [(bn, b)])[k]'(by simp; omega)).2 ∧ _
      rw [e1, e2]
      exact ⟨a1, hrowB a2, a3, .inl a4⟩
    · have hke : k = ps.length := by simp at h1; omega
      subst hke
      have e1 : (ps ++ [(bn, gk, ck)])[ps.length] = (bn, gk, ck) := by simp
      have e2 : (D.uf ++ [(bn, b)])[ps.length]'(by simp; omega) = (bn, b) := by simp [hl]
      show (ps ++ [(bn, gk, ck)])[ps.length].1 = ((D.uf ++ [(bn, b)])[ps.length]'(by simp; omega)).1 ∧ RowB _ (ps ++ [(bn, gk, ck)])[ps.length].2.1 (ps ++ [(bn, gk, ck)])[ps.length].2.2 ((D.uf ++ [(bn, b)])[ps.length]'(by simp; omega)).2 ∧ _
      rw [e1, e2]
      exact ⟨rfl, hrowB hrow, hkg, .inr (.inl rfl)⟩
  · intro i hi
    have z1 := hb.size
    have z2 := hg.size
    have z3 := gr.size
    rcases hi with hi | rfl | hi
    · have := h.flt i hi; omega
    · have := hrow.lt; omega
    · have := (ho.lt i hi).2; omega
  · intro i hi
    rcases hi with hi | rfl | hi
    · exact .inl hi
    · exact .inr hgk
    · rcases hv i hi with h1 | h1
      · exact .inl (h.fu i h1)
      · exact .inr h1
  · have u1 : Upd F w w3 := Upd.of_below hb
    have u2 : Upd F w w4 := u1.grown hg (fun k hk => .inl (h.fu k hk))
    exact ⟨u2.setCell (.inl h.fg) _, hbox4⟩

def writeF (D : DS) : Prop := D.uf.length ≤ 1000000 ∧ D.n ≤ 1000000

set_option maxRecDepth 100000 in
set_option maxHeartbeats 2000000 in
theorem write_ok {g : Nat} {w : World} {D : DS} {F : Nat → Prop} {gd cd : Nat} {vu : Value} {ps : List (Nat × Nat × Nat)} (h : Lies w g D F gd cd vu ps) (bn cb : Nat) (ad : Addr) (b : List UInt8) (hb : b.length = 4096) (hbn : bn < D.nb) (hE : D.operE = 0) (hlim : writeF D) (hr : Rd w (some ad) b) (hF : ¬ F ad.block) :
    Calls Tryz.prog 36 #[.pointer (some ⟨g, 0, none⟩), .int .i64 (bn : Int), .slice (some ad) 4096 cb] w fun e w' => e = .returned (.int .i64 0) ∧ (∃ F', IsDisk w' g { D.oper with uf := D.uf ++ [(bn, b)], n := D.n + 1 } F' ∧ ∀ i, F' i → F i ∨ w.heap.size ≤ i) ∧ Upd F w w' := by
  have c := isMade_at h
  have cH := has_at h (bn : Int)
  have hhas : D.has (bn : Int) = true := by simp [DS.has]; omega
  rw [hhas] at cH
  have cO := operation_at h
  rw [hE] at cO
  obtain ⟨i0, hi, hz0, hz1, hz2⟩ := info_parts info79
  obtain ⟨l1, l2⟩ := hlim
  have Hb : Hid _ := hb
  have hfg := h.fg
  have Hnb : Hid _ := D.oper_nb
  have Huf : Hid _ := D.oper_uf
  have Hn : Hid _ := D.oper_n
  have hsp : ad = ⟨ad.block, ad.off, none⟩ := by
    obtain ⟨b', o', he, _⟩ := hr (by omega)
    obtain rfl := Option.some.inj he
    rfl
  obtain ⟨ab, ao, asp⟩ := ad
  simp only [Addr.mk.injEq, true_and] at hsp
  subst hsp
  clear hhas hE hb
  go_enter Tryz.func36, Tryz.ntmps36
  go_wp2_with fail
  refine c.mono ?_
  rintro e w' ⟨rfl, rfl⟩
  go_wp2_with fail
  refine cH.mono ?_
  rintro e w' ⟨rfl, rfl⟩
  go_wp2_with fail
  refine cO.mono ?_
  rintro e w1 ⟨rfl, h1, g1⟩
  have hr1 : Rd w1 (some ⟨ab, ao, none⟩) b := hr.upd ((Upd.refl F w).grown g1 (fun k e => by cases e; exact .inl hfg)) hF
  have U1 : Upd F w w1 := (Upd.refl F w).grown g1 (fun k e => by cases e; exact .inl hfg)
  clear c cH cO g1
  obtain ⟨_, _, c2, _⟩ := box_cells h1.box
  go_wp2_with fail
  refine wp_region_any (by kernel_rfl) ?_
  change wpAny _ _ _ _ _ _ _ (World.drew _)
  refine wpAny_take (i := 0) (v := ?_) rfl (by kernel_rfl) (by kernel_rfl) (by kernel_rfl) (fun _ _ _ h => h) (Or.inl ⟨by rfl, ?_⟩) ?_
  rotate_left
  · intro w
    go_simp
    with_reducible rfl
  refine wpAny_take (i := 1) (v := ?_) rfl (by kernel_rfl) (by kernel_rfl) (by kernel_rfl) (fun _ _ _ h => h) (Or.inl ⟨by rfl, ?_⟩) ?_
  rotate_left
  · intro w
    go_simp
    with_reducible rfl
  refine wpAny_take (i := 2) (v := ?_) rfl (by kernel_rfl) (by kernel_rfl) (by kernel_rfl) (fun _ _ _ h => h) (Or.inl ⟨by rfl, ?_⟩) ?_
  rotate_left
  · intro w
    go_simp
    with_reducible rfl
  refine wpAny_take (i := 3) (v := ?_) rfl (by kernel_rfl) (by kernel_rfl) (by kernel_rfl) (fun _ _ _ h => h) (Or.inl ⟨by rfl, ?_⟩) ?_
  rotate_left
  · intro w
    go_simp
    with_reducible rfl
  refine wpAny_take (i := 5) (v := ?_) rfl (by kernel_rfl) (by kernel_rfl) (by kernel_rfl) (fun _ _ _ h => h) (Or.inl ⟨by rfl, ?_⟩) ?_
  rotate_left
  · intro w
    go_simp
    with_reducible rfl
  refine wpAny_take (i := 6) (v := ?_) rfl (by kernel_rfl) (by kernel_rfl) (by kernel_rfl) (fun _ _ _ h => h) (Or.inl ⟨by rfl, ?_⟩) ?_
  rotate_left
  · intro w
    go_simp
    with_reducible rfl
  simp only [Act.put, List.setIfInBounds_toArray, List.set_cons_zero, List.set_cons_succ, List.getElem_toArray, List.getElem_cons_zero, List.getElem_cons_succ]
  have hvu : ∃ av cu, vu = .slice av D.uf.length cu := by
    have hrow := h.row
    rcases hrow.2 with ⟨h1, h2⟩ | ⟨gv, cu, cur, hv, _⟩
    · exact ⟨none, 0, by rw [h1, h2]⟩
    · exact ⟨some ⟨gv, 0, none⟩, cu, hv⟩
  obtain ⟨av, cu, rfl⟩ := hvu
  obtain ⟨n, hn⟩ : ∃ n, n = D.uf.length := ⟨_, rfl⟩
  rw [← hn] at h1 c2 l1
  have Hnn : Hid _ := hn
  clear hn
  refine wpAny_of_late (C := SlotsCells [(31, .pointer (some ⟨g, 2, none⟩))] [(⟨g, 2, none⟩, .slice av n cu)]) (late := [10, 11, 12, 13]) _ _ _ _ ?_
  have h2 : Lies w1.drew g D.oper F gd cd (.slice av n cu) ps := h1.below (Below.refl _ _).drew
  have c2d : w1.drew.cell? ⟨g, 2, none⟩ = some (.slice av n cu) := c2
  have hr2 : Rd w1.drew (some ⟨ab, ao, none⟩) b := hr1
  have U2 : Upd F w w1.drew := U1.drew
  have hgl : g < w1.drew.heap.size := h2.box.lt
  obtain ⟨W, hW⟩ : ∃ W, W = w1.drew := ⟨_, rfl⟩
  rw [← hW] at h2 c2d hr2 U2 hgl ⊢
  clear hW h1 c2 hr1 U1
  refine wpAnyD_take (i := 4) (v := .slice av n cu) rfl (by kernel_rfl) (by kernel_rfl) (by kernel_rfl) (by kernel_rfl) (fun _ _ _ h => h) ?_ (fun fr u h => (SlotsCells.put 32 _ (by rfl)).1 h) (fun fr u h => (SlotsCells.put 32 _ (by rfl)).2 h) ?_ ?_
  · intro fr u hh
    obtain ⟨e1, e2⟩ := hh.load (s := 31) (p := ⟨g, 2, none⟩) (v := .slice av n cu) (by simp) (by simp)
    exact ⟨rfl, by simp [execOp, e1, go_sem, e2]⟩
  · refine ⟨fun p hp => ?_, fun q hq => ?_⟩
    · simp at hp
      subst hp
      rfl
    · simp at hq
      subst hq
      exact c2d
  simp only [Act.put, List.setIfInBounds_toArray, List.set_cons_zero, List.set_cons_succ, List.getElem_toArray, List.getElem_cons_zero, List.getElem_cons_succ]
  refine wpAnyD_one (i := 7) (by kernel_rfl) rfl (fun K hK => ?_)
  go_simp
  refine (clone_at cb 4096 ⟨ab, ao, none⟩ b W Hb.out (by omega) (by omega) hr2).mono ?_
  rintro e w2 ⟨gk, ck, rfl, hgk, rk, b2⟩
  have c2e := (b2.cell (p := ⟨g, 2, none⟩) hgl).trans c2d
  refine hK _ _ ⟨?_, ?_⟩
  · refine .inr ⟨fun p hp => ?_, fun q hq => ?_⟩
    · simp at hp
      subst hp
      rfl
    · simp at hq
      subst hq
      exact c2e
  clear hK K
  refine wpAnyD_one (i := 8) (by kernel_rfl) rfl (fun K hK => ?_)
  go_simp
  refine hK _ _ ⟨?_, ?_⟩
  · refine .inr ⟨fun p hp => ?_, fun q hq => ?_⟩
    · simp at hp
      subst hp
      rfl
    · simp at hq
      subst hq
      exact c2e
  clear hK K
  have bA := (Below.refl w2.heap.size w2).alloc (Nat.le_refl _) (.cells #[.int .i64 (bn : Int), .slice (some ⟨gk, 0, none⟩) 4096 ck] 136)
  have x3 := Box.new w2 #[.int .i64 (bn : Int), .slice (some ⟨gk, 0, none⟩) 4096 ck] 136
  have rk3 := rk.same (bA.block gk rk.lt)
  have B3 := b2.trans (bA.mono b2.size)
  have c2f := (B3.cell (p := ⟨g, 2, none⟩) hgl).trans c2d
  refine wpAnyD_one (i := 9) (by kernel_rfl) rfl (fun K hK => ?_)
  go_simp
  refine hK _ _ ⟨?_, ?_⟩
  · refine .inr ⟨fun p hp => ?_, fun q hq => ?_⟩
    · simp at hp
      subst hp
      rfl
    · simp at hq
      subst hq
      exact c2f
  clear hK K
  obtain ⟨V, hV⟩ : ∃ V, V = w2.alloc (.cells #[.int .i64 (bn : Int), .slice (some ⟨gk, 0, none⟩) 4096 ck] 136) := ⟨_, rfl⟩
  obtain ⟨G, hG⟩ : ∃ G, G = w2.heap.size := ⟨_, rfl⟩
  rw [← hV] at x3 rk3 B3 c2f ⊢
  rw [← hG] at x3 ⊢
  clear hV hG bA c2e rk b2
  have h3 := h2.below B3
  have row3 : V.ownsRow 0 136 2 (.slice av n cu) n (wcs ps) := by
    have := h3.row
    rw [Huf.out, ← Hnn.out] at this
    exact this
  refine wpAnyD_one (i := 10) (by kernel_rfl) rfl (fun K hK => ?_)
  refine step_append_where rfl (.tmp 32) (.tmp 37) 128 rfl 136 i0 (.agg #[.int .i64 0, .slice none 0 0]) 2 32 Tryz.underlying128 hi hz0 hz1 hz2 rfl (by decide) (.slice av n cu) n (wcs ps) rfl row3 ⟨G, 0, none⟩ 1 1 [.int .i64 (bn : Int), .slice (some ⟨gk, 0, none⟩) 4096 ck] rfl rfl ?_ ?_ (by unfold maxLen; omega) (by omega) ?_
  · intro j u hj
    match j, hj with
    | 0, hj => simp at hj; subst hj; rw [Addr.add_lit]; exact x3.cell 0
    | 1, hj => simp at hj; subst hj; rw [Addr.add_lit]; exact x3.cell 1
  · intro u hu
    simp at hu
    rcases hu with rfl | rfl <;> rfl
  intro v4 w4 o4 g4 hw4
  have hVs : W.heap.size ≤ V.heap.size := B3.size
  obtain ⟨F', hl, hF', hu, hbx⟩ := h2.added B3 bn gk ck b rk3 hgk (by rw [Hnb.out]; exact hbn) Hb.out (by rw [wcs_snoc, Huf.out, ← Hnn.out]; exact o4) g4 (fun k hk => by rcases hw4 k hk with h | h; exact .inl h; exact .inr (by omega))
  have hv4 : ∃ av cu, v4 = .slice av (n + 1) cu := by
    rcases o4.2 with ⟨_, h2⟩ | ⟨gv, cu, cur, hv, _⟩
    · omega
    · exact ⟨some ⟨gv, 0, none⟩, cu, hv⟩
  obtain ⟨av4, cu4, rfl⟩ := hv4
  refine hK _ _ ⟨.inl rfl, ?_⟩
  clear hK K o4 g4 hw4 row3 h3 x3 rk3
  simp only [Act.put, List.setIfInBounds_toArray]
  refine wpAnyD_one (i := 11) (by kernel_rfl) rfl (fun K hK => ?_)
  go_simp
  refine hK _ _ ⟨.inl rfl, ?_⟩
  clear hK K
  refine wpAnyD_one (i := 12) (by kernel_rfl) rfl (fun K hK => ?_)
  go_simp
  refine hK _ _ ⟨.inl rfl, ?_⟩
  clear hK K
  have f2 := hbx.frozen 2
  obtain ⟨_, _, k2, _⟩ := box_cells hbx
  refine wpAnyD_one (i := 13) (by kernel_rfl) rfl (fun K hK => ?_)
  go_simp
  refine hK _ _ ⟨.inl rfl, ?_⟩
  clear hK K f2 k2
  refine wpAnyD_done (by kernel_rfl) ?_ _
  generalize w4.setCell ⟨g, 2, none⟩ (.slice av4 (n + 1) cu4) = X at hl hu ⊢
  obtain ⟨_, _, _, k3, _⟩ := box_cells hl.box
  have f3 := hl.box.frozen 3
  dsimp only at k3
  rw [Hn.out] at k3
  have b5 := hl.box.store 3 (.int .i64 ((D.n : Int) + 1))
  have g5 := grown_store X g 3 (.int .i64 ((D.n : Int) + 1))
  have hn1 : (((D.n + 1 : Nat)) : Int) = (D.n : Int) + 1 := by omega
  have hl5 := hl.turned (D' := { D.oper with uf := D.oper.uf ++ [(bn, b)], n := D.n + 1 }) g5 (by rw [← hn1] at b5; rw [← hn1]; exact b5) rfl rfl ⟨hl.ok.len, hl.ok.lo, hl.ok.hi, hl.ok.each, hl.ok.arm, hl.ok.fail⟩
  rw [Huf.out] at hl5
  have u5 : Upd F w _ := (U2.trans hu (fun i hi => .inl hi)).grown g5 (fun k e => by cases e; exact .inl hfg)
  have hWs : w.heap.size ≤ W.heap.size := U2.size
  clear b5 g5 hn1 hl hu hbx
  go_wp2
  go_ret
  exact ⟨rfl, ⟨F', ⟨_, _, _, _, hl5⟩, fun i hi => by rcases hF' i hi with h | h; exact .inl h; exact .inr (by omega)⟩, u5⟩
end Go.Proofs.YtnldkpckojhbhaaGreat.Dk

/-
  Write whatever it is given; Writes, Pending.
-/
namespace Go.Proofs.YtnldkpckojhbhaaGreat.Dk
open Go.RowKit

set_option maxRecDepth 100000 in
theorem write_not {g : Nat} {w : World} {D : DS} {F : Nat → Prop} {gd cd : Nat} {vu : Value} {ps : List (Nat × Nat × Nat)} (h : Lies w g D F gd cd vu ps) (n : Int) (a : Option Addr) (len cb : Nat) (hn : D.has n = false) :
    Calls Tryz.prog 36 #[.pointer (some ⟨g, 0, none⟩), .int .i64 n, .slice a len cb] w fun e w' => e = .returned (.int .i64 70) ∧ w = w' := by
  have c := isMade_at h
  have cH := has_at h n
  rw [hn] at cH
  go_enter Tryz.func36, Tryz.ntmps36
  go_wp2_with fail
  refine c.mono ?_
  rintro e w' ⟨rfl, rfl⟩
  go_wp2_with fail
  refine cH.mono ?_
  rintro e w' ⟨rfl, rfl⟩
  go_wp2
  go_ret
  exact ⟨rfl, rfl⟩
set_option maxRecDepth 100000 in
theorem write_len {g : Nat} {w : World} {D : DS} {F : Nat → Prop} {gd cd : Nat} {vu : Value} {ps : List (Nat × Nat × Nat)} (h : Lies w g D F gd cd vu ps) (n : Int) (a : Option Addr) (len cb : Nat) (hn : D.has n = true) (hl : len ≠ 4096) :
    Calls Tryz.prog 36 #[.pointer (some ⟨g, 0, none⟩), .int .i64 n, .slice a len cb] w fun e w' => e = .returned (.int .i64 2) ∧ w = w' := by
  have c := isMade_at h
  have cH := has_at h n
  rw [hn] at cH
  have hl' : ((len : Int) != 4096) = true := by simp; omega
  go_enter Tryz.func36, Tryz.ntmps36
  go_wp2_with fail
  refine c.mono ?_
  rintro e w' ⟨rfl, rfl⟩
  go_wp2_with fail
  refine cH.mono ?_
  rintro e w' ⟨rfl, rfl⟩
  go_wp2
  go_ret
  exact ⟨rfl, rfl⟩
set_option maxRecDepth 100000 in
theorem write_stop {g : Nat} {w : World} {D : DS} {F : Nat → Prop} {gd cd : Nat} {vu : Value} {ps : List (Nat × Nat × Nat)} (h : Lies w g D F gd cd vu ps) (n : Int) (a : Option Addr) (cb : Nat) (hn : D.has n = true) (hE : D.operE ≠ 0) :
    Calls Tryz.prog 36 #[.pointer (some ⟨g, 0, none⟩), .int .i64 n, .slice a 4096 cb] w fun e w' => e = .returned (.int .i64 (D.operE : Int)) ∧ Lies w' g D.oper F gd cd vu ps ∧ w.grownBy w' (some g) := by
  have c := isMade_at h
  have cH := has_at h n
  rw [hn] at cH
  have cO := operation_at h
  generalize D.operE = E at cO hE ⊢
  have hE' : ((E : Int) != 0) = true := by simp; omega
  go_enter Tryz.func36, Tryz.ntmps36
  go_wp2_with fail
  refine c.mono ?_
  rintro e w' ⟨rfl, rfl⟩
  go_wp2_with fail
  refine cH.mono ?_
  rintro e w' ⟨rfl, rfl⟩
  go_wp2_with fail
  refine cO.mono ?_
  rintro e w1 ⟨rfl, h1, g1⟩
  go_wp2
  go_ret
  exact ⟨rfl, h1, g1⟩

theorem write_at {g : Nat} {w : World} {D : DS} {F : Nat → Prop} (hd : IsDisk w g D F) (n : Int) (a : Option Addr) (len cb : Nat) (b : List UInt8) (hb : b.length = len) (hlim : writeF D) (hr : Rd w a b) (hF : ∀ ad, a = some ad → ¬ F ad.block) :
    Calls Tryz.prog 36 #[.pointer (some ⟨g, 0, none⟩), .int .i64 n, .slice a len cb] w fun e w' => e = .returned (.int .i64 (D.writeE n b : Int)) ∧ (∃ F', IsDisk w' g (D.write n b) F' ∧ ∀ i, F' i → F i ∨ w.heap.size ≤ i) ∧ Upd F w w' := by
  obtain ⟨gd, cd, vu, ps, h⟩ := hd
  cases hh : D.has n with
  | false =>
    have e1 : D.writeE n b = 70 := by simp [DS.writeE, hh]
    have e2 : D.write n b = D := by simp [DS.write, hh]
    rw [e1, e2]
    refine (write_not h n a len cb hh).mono ?_
    rintro e w' ⟨rfl, rfl⟩
    exact ⟨rfl, ⟨F, ⟨_, _, _, _, h⟩, fun i hi => .inl hi⟩, Upd.refl _ _⟩
  | true =>
    by_cases hl : len = 4096
    · subst hl
      by_cases hE : D.operE = 0
      · have hn : 0 ≤ n ∧ n < D.nb := by simpa [DS.has] using hh
        obtain ⟨bn, rfl⟩ := Int.eq_ofNat_of_zero_le hn.1
        have e1 : D.writeE bn b = 0 := by simp [DS.writeE, hh, hb, hE]
        have e2 : D.write bn b = { D.oper with uf := D.uf ++ [(bn, b)], n := D.n + 1 } := by simp [DS.write, hh, hb, hE]
        rw [e1, e2]
        obtain ⟨b', o', rfl, _⟩ := hr (by omega)
        exact write_ok h bn cb _ b hb (by omega) hE hlim hr (hF _ rfl)
      · have e1 : D.writeE n b = D.operE := by simp [DS.writeE, hh, hb]
        have e2 : D.write n b = D.oper := by simp [DS.write, hh, hb, hE]
        rw [e1, e2]
        refine (write_stop h n a cb hh hE).mono ?_
        rintro e w' ⟨rfl, h1, g1⟩
        exact ⟨rfl, ⟨F, ⟨_, _, _, _, h1⟩, fun i hi => .inl hi⟩, (Upd.refl F w).grown g1 (fun k e => by cases e; exact .inl h.fg)⟩
    · have e1 : D.writeE n b = 2 := by simp [DS.writeE, hh, hb, hl]
      have e2 : D.write n b = D := by simp [DS.write, hh, hb, hl]
      rw [e1, e2]
      refine (write_len h n a len cb hh hl).mono ?_
      rintro e w' ⟨rfl, rfl⟩
      exact ⟨rfl, ⟨F, ⟨_, _, _, _, h⟩, fun i hi => .inl hi⟩, Upd.refl _ _⟩

theorem size_of {g : Nat} {w : World} {D : DS} {F : Nat → Prop} (hd : IsDisk w g D F) :
    Calls Tryz.prog 88 #[.pointer (some ⟨g, 0, none⟩)] w fun e w' => e = .returned (.int .i64 (D.nb : Int)) ∧ w = w' := by
  obtain ⟨gd, cd, vu, ps, h⟩ := hd
  exact size_at h

def ic (k : Nat) : Value := .int .i64 (k : Int)
theorem info3 : (Tryz.prog.info? 3).map (fun i => (i.zero, i.size, i.bytes)) = some (some (.int .i64 0), 1, 8) := by kernel_rfl

end Go.Proofs.YtnldkpckojhbhaaGreat.Dk

/-
  Rows of numbers that count up: the law's row, and Groups.
-/
namespace Go.Proofs.YtnldkpckojhbhaaGreat.J
open Go.RowKit
open Go.Proofs.YtnldkpckojhbhaaGreat.Dk (Box)

end Go.Proofs.YtnldkpckojhbhaaGreat.J
