/-
  VImgZ, RcApart, RcApartWalk, VSparesL: put together.
-/
import Derived.Test.YtnldkpckojhbhaaGreatG8
import Derived.Test.YtnldkpckojhbhaaGreatRows
import Derived.WalkKit
import Derived.WalkSpells
import Derived.WalkLawsBesides
import Derived.Laws.BytesArg
import Derived.ProofKit
import Derived.ArgAppend
import Derived.Deep.QuietTactic
import Derived.Deep.RegionWith
import Derived.BigQuiet
import Derived.Deep.Cut
/-
  The law of volume: its images, made of any number.
-/
namespace Go.Proofs.YtnldkpckojhbhaaGreat.J
open Go.RowKit
open Go.Proofs.YtnldkpckojhbhaaGreat.Rc (GG GetJ imgC madeL RowB owns_below owns_shape owns_block)

def nz (N : Int) : Nat → Int
  | 0 => N
  | k + 1 => (nz N k).tdiv 2 + k
theorem half_in (n : Int) (h : -9223372036854775808 ≤ n ∧ n ≤ 9223372036854775807) : -4611686018427387904 ≤ n.tdiv 2 ∧ n.tdiv 2 ≤ 4611686018427387904 := by
  by_cases h0 : 0 ≤ n
  · rw [Int.tdiv_eq_ediv_of_nonneg h0]; omega
  · have e : n = -(-n) := by omega
    rw [e, Int.neg_tdiv, Int.tdiv_eq_ediv_of_nonneg (by omega)]; omega
theorem nz_in (N : Int) (h : -9223372036854775808 ≤ N ∧ N ≤ 9223372036854775807) : ∀ k, k ≤ 100 → -9223372036854775808 ≤ nz N k ∧ nz N k ≤ 9223372036854775807
  | 0, _ => h
  | k + 1, hk => by
    have := half_in _ (nz_in N h k (by omega))
    rw [nz]
    omega
def imgZ (bs : List Int) (N : Int) (k : Nat) : List (Int × List UInt8) := (List.range k).map fun i => (bs.getD i 0, madeL (nz N i) 4096)
theorem imgZ_succ (bs : List Int) (N : Int) (k : Nat) (h : k < bs.length) : imgZ bs N (k + 1) = imgZ bs N k ++ [(bs[k], madeL (nz N k) 4096)] := by simp [imgZ, List.range_succ, h]

set_option maxRecDepth 100000 in
set_option maxHeartbeats 4000000 in
theorem imagesZ_at (w : World) (b o n c : Nat) (N : Int) (bs : List Int) (hl : bs.length = n) (hn : n ≤ 40) (hN : -9223372036854775808 ≤ N ∧ N ≤ 9223372036854775807) (hb : ∀ j (h : j < bs.length), w.cell? ⟨b, o + j, none⟩ = some (.int .i64 bs[j])) :
    Calls Tryz.prog 16 #[.slice (some ⟨b, o, none⟩) n c, .int .i64 N] w fun r w' => ∃ a' c' qs, r = .returned (.slice a' n c') ∧ w'.ownsRow w.heap.size 89 2 (.slice a' n c') n (imgC qs) ∧ GetJ w.heap.size w' qs ∧ qs.map (fun p => (p.b, p.xs)) = imgZ bs N n ∧ Below w.heap.size w w' := by
  obtain ⟨i0, hi, hz0, hz1, hz2⟩ := info_parts Rc.info38
  have HL : Hid (bs.length = n) := hl
  have HB : Hid (∀ j (h : j < bs.length), w.cell? ⟨b, o + j, none⟩ = some (.int .i64 bs[j])) := hb
  clear hl hb
  go_enter Tryz.func16, Tryz.ntmps16
  go_wp2_with fail
  go_loopw [1, 5, 6] (fun x v i u => ∃ (k : Nat) (qs : List GG), k ≤ n ∧ i = .int .i64 (k : Int) ∧ x = .int .i64 (nz N k) ∧ u.ownsRow w.heap.size 89 2 v k (imgC qs) ∧ GetJ w.heap.size u qs ∧ qs.map (fun p => (p.b, p.xs)) = imgZ bs N k ∧ Below w.heap.size w u) (fun _ _ i _ => n - (intOf i).toNat)
  case atStart => exact ⟨0, [], Nat.zero_le _, rfl, rfl, World.ownsRow_nil _ _ _ _, ⟨fun p hp => (by cases hp), List.nodup_nil⟩, rfl, Below.refl _ _⟩
  case round =>
    obtain ⟨k, qs, hk, rfl, rfl, hown, hJ, hps, B⟩ := hrel
    have HPS : Hid (qs.map (fun p => (p.b, p.xs)) = imgZ bs N k) := hps
    have HJ : Hid (GetJ w.heap.size wr qs) := hJ
    have HOWN : Hid (wr.ownsRow w.heap.size 89 2 u5 k (imgC qs)) := hown
    clear hps hJ
    obtain ⟨av, cv, rfl⟩ := owns_shape hown
    by_cases hlt : k < n
    · have k1 : k < bs.length := by rw [HL.out]; exact hlt
      have g0 := HB.out k k1
      have lb : b < w.heap.size := block_lt_of_cell g0
      have hstep : Hid (imgZ bs N (k + 1) = imgZ bs N k ++ [(bs[k], madeL (nz N k) 4096)]) := imgZ_succ bs N k k1
      have hml : Hid ((madeL (nz N k) 4096).length = 4096) := Rc.madeK_length _ _ _
      have cM := Rc.made_at (nz N k) 4096 wr.drew (by omega)
      have hnk := nz_in N hN k (by omega)
      have hnx : Hid (nz N (k + 1) = (nz N k).tdiv 2 + k) := rfl
      generalize nz N k = nn at cM hstep hml hnk hnx ⊢
      obtain ⟨ml, hmd⟩ : ∃ l, l = madeL nn 4096 := ⟨_, rfl⟩
      rw [← hmd] at cM hstep hml
      generalize (bs[k]'k1) = bx at g0 hstep
      clear hmd
      have HS : Hid (∀ u : World, Below w.heap.size w u → u.cell? ⟨b, o + k, none⟩ = some (.int .i64 bx) ∧ Hid (Below w.heap.size w u)) := fun u hu =>
        ⟨(hu.cell (p := ⟨b, o + k, none⟩) lb).trans g0, hu⟩
      have hk0 : (0 : Int) ≤ (k : Int) := by omega
      have hki : (k : Int) < (n : Int) := by omega
      have hk40 : (k : Int) < 40 := by omega
      have hd2 := half_in nn hnk
      generalize hdv : nn.tdiv 2 = nq at hnx hd2
      have hwq : IntKind.i64.wrap nq = nq := by rw [IntKind.wrap_i64]; omega
      clear g0 lb hown
      go_wp2_with fail
      go_region_held3 (fun u => u.cell? ⟨b, o + k, none⟩ = some (.int .i64 bx) ∧ Hid (Below w.heap.size w u))
        (first | with_reducible exact HS.out _ B.drew | with_reducible exact HS.out _ B1 | with_reducible exact HS.out _ B2 | with_reducible exact HS.out _ (B1.alloc B1.size _))
        (first
          | (go_at_call 21; refine Calls.mono cM ?_; rintro r W ⟨rfl, om, bW⟩
             have rowM : Hid (RowB W wr.heap.size 4096 ml) := by
               have := Rc.RowB.own om (by rw [hml.out]; decide)
               rwa [hml.out] at this
             have J2 : Hid (GetJ w.heap.size W (qs ++ [⟨bx, ml, wr.heap.size, 4096⟩])) := (HJ.out.below ((Below.refl wr.heap.size wr).drew)).snoc bW ⟨bx, ml, wr.heap.size, 4096⟩ rowM.out (Nat.le_refl _) hml.out B.size
             have O2 : Hid (W.ownsRow w.heap.size 89 2 (.slice av k cv) k (imgC qs)) := owns_below (owns_below HOWN.out ((Below.refl wr.heap.size wr).drew)) bW
             have B1 := B.drew.trans (bW.mono B.size)
             clear om bW cM B)
          | ((refine step_append_lies _ (by rfl) _ _ _ (by rfl) w.heap.size 89 i0 _ 2 32 Tryz.underlying29 hi hz0 hz1 hz2 rfl (by omega) (.slice av k cv) k (imgC qs) (by rfl) (owns_below O2.out ((Below.refl _ W).alloc (Nat.le_refl _) _))
                ⟨W.heap.size, 0, none⟩ 1 1 [.int .i64 bx, .slice (some ⟨wr.heap.size, 0, none⟩) 4096 4096] (by rfl) (by rfl) (World.news_of_block (cs := #[.int .i64 bx, .slice (some ⟨wr.heap.size, 0, none⟩) 4096 4096]) (t := 89) (fr := (0, 0)) (heap_alloc_new W _)) (by intro u hu; simp at hu; rcases hu with rfl | rfl <;> rfl)
                (by omega) (by unfold maxLen; omega) (by omega) (by simp; exact Nat.le_succ_of_le B1.size) (W.heap.size + 1) (by simp) ?_)
             intro gg gc w1 hown1 hgrow hat hlt1
             have B2 := (B1.alloc B1.size (.cells #[.int .i64 bx, .slice (some ⟨wr.heap.size, 0, none⟩) 4096 4096] 89)).grown hgrow (by simp; exact Nat.le_succ_of_le B1.size) (fun j e => (owns_block O2.out j e).1)
             have J3 : Hid (GetJ w.heap.size w1 (qs ++ [⟨bx, ml, wr.heap.size, 4096⟩])) := (J2.out.below ((Below.refl _ W).alloc (Nat.le_refl _) (.cells #[.int .i64 bx, .slice (some ⟨wr.heap.size, 0, none⟩) 4096 4096] 89))).grown (owns_below O2.out ((Below.refl _ W).alloc (Nat.le_refl _) _)) (by decide) hgrow
             clear hgrow hat hlt1))
      have O5 : Hid (w1.ownsRow w.heap.size 89 2 (.slice (some ⟨gg, 0, none⟩) (k + 1) gc) (k + 1) (imgC (qs ++ [⟨bx, ml, wr.heap.size, 4096⟩]))) := by
        have e : imgC (qs ++ [⟨bx, ml, wr.heap.size, 4096⟩]) = imgC qs ++ [.int .i64 bx, .slice (some ⟨wr.heap.size, 0, none⟩) 4096 4096] := by simp [imgC]
        rw [e]
        exact hown1
      clear hown1 J2 O2 B1
      go_wp2_with fail
      go_roundw
      case rel => exact ⟨k + 1, _, by omega, by push_cast; rfl, by rw [hnx.out], O5.out, J3.out, by rw [List.map_append, HPS.out, hstep.out]; rfl, B2⟩
      case measure => simp [intOf]; omega
    · have hke : k = n := by omega
      rw [hke] at HOWN HPS ⊢
      clear hke hlt hk hown
      go_wp2_with fail
      go_ret
      exact ⟨_, _, qs, rfl, HOWN.out, HJ.out, HPS.out, B⟩
end Go.Proofs.YtnldkpckojhbhaaGreat.J

/-
  ApartBytes: rows of bytes that lie apart, marked, then grown.
-/
namespace Go.Proofs.YtnldkpckojhbhaaGreat.Rc.Apart
open Go.RowKit

def mrk (k i : Nat) : Int := IntKind.u64.wrap ((1000003 * ((k : Int) + 7) + (i : Int)) * 11400714819323198485) / 72057594037927936 % 256
theorem mark_at (k i : Nat) (w : World) (hk : k ≤ 1000) (hi : i ≤ 1000000) :
    Calls Tryz.prog 118 #[.int .i64 k, .int .i64 i] w fun e w' => e = .returned (.int .u8 (mrk k i)) ∧ w' = w := by
  go_enter Tryz.func118, Tryz.ntmps118
  go_wp2
  go_ret
  exact ⟨rfl, rfl⟩

def Box (w : World) (g : Nat) (cs : Array Value) (t : TypeId) : Prop := w.heap[g]? = some (.cells cs t (0, 0))
theorem Box.cell {w : World} {g : Nat} {cs : Array Value} {t : TypeId} (h : Box w g cs t) (j : Nat) : w.cell? ⟨g, j, none⟩ = cs[j]? := cell_of_row w g j cs t (0, 0) h
theorem Box.frozen {w : World} {g : Nat} {cs : Array Value} {t : TypeId} (h : Box w g cs t) (j : Nat) : w.frozen? ⟨g, j, none⟩ = false := frozen_of_row w g j cs t h
theorem Box.lt {w : World} {g : Nat} {cs : Array Value} {t : TypeId} (h : Box w g cs t) : g < w.heap.size := (Array.getElem?_eq_some_iff.1 h).1
theorem Box.new (w : World) (cs : Array Value) (t : TypeId) : Box (w.alloc (.cells cs t)) w.heap.size cs t := heap_alloc_new w _
theorem Box.store {w : World} {g : Nat} {cs : Array Value} {t : TypeId} (h : Box w g cs t) (j : Nat) (v : Value) : Box (w.setCell ⟨g, j, none⟩ v) g (cs.setIfInBounds j v) t := heap_setCell_same w g j cs t v h
theorem Box.ne {w : World} {g g' : Nat} {cs cs' : Array Value} {t t' : TypeId} (h : Box w g cs t) (h' : Box w g' cs' t') (ht : t ≠ t') : g ≠ g' := by
  intro e
  subst e
  unfold Box at h h'
  rw [h] at h'
  simp at h'
  exact ht h'.2
theorem grown_store (w : World) (g j : Nat) (u : Value) : w.grownBy (w.setCell ⟨g, j, none⟩ u) (some g) :=
  ⟨rfl, rfl, rfl, by simp, fun k _ hk => heap_setCell_other w ⟨g, j, none⟩ k u (fun e => hk (by simp [e]))⟩

def Marked (w : World) (i b cc m : Nat) : Prop := ∃ cur : Array Value, Box w b cur 5 ∧ cur.size = cc ∧ m ≤ cc ∧ ∀ j, j < m → cur[j]? = some (.int .u8 (mrk i j))
theorem Marked.lt {w : World} {i b cc m : Nat} (h : Marked w i b cc m) : b < w.heap.size := by obtain ⟨_, h, _⟩ := h; exact h.lt
theorem Marked.kept {w w' : World} {i b cc m : Nat} (h : Marked w i b cc m) (hb : w'.heap[b]? = w.heap[b]?) : Marked w' i b cc m := by
  obtain ⟨cur, h, r⟩ := h
  exact ⟨cur, hb.trans h, r⟩
theorem Marked.less {w : World} {i b cc m m' : Nat} (h : Marked w i b cc m) (hm : m' ≤ m) : Marked w i b cc m' := by
  obtain ⟨cur, h, h1, h2, h3⟩ := h
  exact ⟨cur, h, h1, by omega, fun j hj => h3 j (by omega)⟩
theorem Marked.cell {w : World} {i b cc m : Nat} (h : Marked w i b cc m) (j : Nat) (hj : j < m) : w.cell? ⟨b, j, none⟩ = some (.int .u8 (mrk i j)) := by
  obtain ⟨cur, h, _, _, h3⟩ := h
  rw [h.cell j, h3 j hj]
theorem Marked.has {w : World} {i b cc m : Nat} (h : Marked w i b cc m) (j : Nat) (hj : j < cc) : ∃ v, w.cell? ⟨b, j, none⟩ = some v := by
  obtain ⟨cur, h, h1, _⟩ := h
  exact ⟨cur[j]'(by omega), by rw [h.cell j, Array.getElem?_eq_getElem]⟩
theorem Marked.frozen {w : World} {i b cc m : Nat} (h : Marked w i b cc m) (j : Nat) : w.frozen? ⟨b, j, none⟩ = false := by
  obtain ⟨cur, h, _⟩ := h
  exact h.frozen j
theorem Marked.store {w : World} {i b cc m : Nat} (h : Marked w i b cc m) (hm : m < cc) : Marked (w.setCell ⟨b, m, none⟩ (.int .u8 (mrk i m))) i b cc (m + 1) := by
  obtain ⟨cur, h, h1, h2, h3⟩ := h
  refine ⟨_, h.store m _, by rw [Array.size_setIfInBounds]; exact h1, by omega, fun j hj => ?_⟩
  rw [Array.getElem?_setIfInBounds]
  by_cases e : m = j
  · subst e
    rw [if_pos rfl, if_pos (by omega)]
  · rw [if_neg e]
    exact h3 j (by omega)
theorem Marked.ne {w : World} {i b cc m g : Nat} {cs : Array Value} (h : Marked w i b cc m) (hb : Box w g cs 37) : g ≠ b := by
  obtain ⟨cur, h, _⟩ := h
  exact hb.ne h (by decide)

theorem info5 : (Tryz.prog.info? 5).map (fun i => (i.zero, i.size, i.bytes)) = some (some (.int .u8 0), 1, 1) := by kernel_rfl
theorem infoB : (Tryz.prog.info? 37).map (fun i => (i.zero, i.size, i.bytes)) = some (some (.slice none 0 0), 1, 24) := by kernel_rfl

theorem Marked.append {w : World} {i b cc m : Nat} (h : Marked w i b cc m) (hcc : cc ≤ maxLen) (ty : TypeId) (ga : Nat) (hx : w.cell? ⟨ga, 0, none⟩ = some (.int .u8 (mrk i m))) (hm : m ≤ 1000000) :
    ∃ b' cc' w', (Builtin.append_ #[37, 37] ty #[.slice (some ⟨b, 0, none⟩) m cc, .slice (some ⟨ga, 0, none⟩) 1 1]).run Tryz.prog w = .ok (.slice (some ⟨b', 0, none⟩) (m + 1) cc') w' ∧ Marked w' i b' cc' (m + 1) ∧ cc' ≤ maxLen ∧
      ((b' = b ∧ cc' = cc ∧ w.grownBy w' (some b)) ∨ (w.heap.size ≤ b' ∧ Below w.heap.size w w')) := by
  obtain ⟨i0, hi, hz0, hz1, hz2⟩ := info_parts info5
  have h0 := h
  obtain ⟨cur, hb, h1, h2, h3⟩ := h
  have hnews : ∀ j u, ([.int .u8 (mrk i m)] : List Value)[j]? = some u → w.cell? ((⟨ga, 0, none⟩ : Addr).add j) = some u := by
    intro j u hj
    match j, hj with
    | 0, hj => simpa [Addr.add] using hx.trans hj
  by_cases hroom : m + 1 ≤ cc
  · have hr := run_append_room_cells (P := Tryz.prog) w 37 ty 5 i0 Tryz.underlying37 hi b 0 m cc ⟨ga, 0, none⟩ 1 1 [.int .u8 (mrk i m)] (by rw [hz1]; rfl) hnews (by simp [Value.oneCell']) hroom
      (fun j hj => by
        have : j = 0 := by simp at hj; omega
        subst this
        obtain ⟨v, hv⟩ := h0.has m (by omega)
        rw [hz1, Nat.mul_one, Nat.add_zero, Nat.zero_add, hv]
        rfl)
      (fun j hj => hb.frozen _)
    rw [hz1, Nat.mul_one, Nat.zero_add] at hr
    exact ⟨b, cc, _, hr, h0.store (by omega), hcc, .inl ⟨rfl, rfl, grown_store w b m _⟩⟩
  · have hlo : (cur.toList.take m).length = m * 1 := by simp; omega
    obtain ⟨v', w', hr, ho, gr⟩ := run_append_arg_grows (P := Tryz.prog) w 37 ty 5 i0 (.int .u8 0) 1 1 Tryz.underlying37 hi hz0 hz1 hz2 rfl (by decide) ⟨b, 0, none⟩ m cc (cur.toList.take m) hlo
      (fun j u hj => by
        rw [List.getElem?_take] at hj
        split at hj
        · rw [Addr.add_lit, Nat.zero_add, hb.cell]
          simpa using hj
        · cases hj) ⟨ga, 0, none⟩ 1 1 [.int .u8 (mrk i m)] rfl hnews (by omega) (by unfold maxLen; omega) (by omega)
    rcases ho.2 with ⟨_, h0⟩ | ⟨g', cap', cur', rfl, hB, hg', hnc, hcm, hcs, ht⟩
    · omega
    refine ⟨g', cap', w', hr, ⟨cur', hg', by omega, by omega, fun j hj => ?_⟩, hcm, .inr ⟨hB, ⟨gr.os, gr.tape, gr.output, gr.size, fun q hq => gr.block q hq (by simp)⟩⟩⟩
    have e : cur'[j]? = (cur.toList.take m ++ [.int .u8 (mrk i m)])[j]? := by
      rw [← ht, List.getElem?_take, if_pos (by omega)]
      simp
    rw [e]
    have ll : (cur.toList.take m).length = m := by omega
    by_cases hjm : j < m
    · rw [List.getElem?_append_left (by omega), List.getElem?_take, if_pos hjm]
      have := h3 j hjm
      simpa using this
    · have hje : j = m := by omega
      subst hje
      rw [List.getElem?_append_right (by omega), ll]
      simp

def LS (w : World) (N gl : Nat) (g n c : Nat → Nat) : Prop := ∃ LA : Array Value, Box w gl LA 37 ∧ ∀ i, i < N → LA[i]? = some (.slice (some ⟨g i, 0, none⟩) (n i) (c i))
theorem LS.kept {w w' : World} {N gl : Nat} {g n c : Nat → Nat} (h : LS w N gl g n c) (hb : w'.heap[gl]? = w.heap[gl]?) : LS w' N gl g n c := by
  obtain ⟨LA, h, r⟩ := h
  exact ⟨LA, hb.trans h, r⟩
theorem LS.lt {w : World} {N gl : Nat} {g n c : Nat → Nat} (h : LS w N gl g n c) : gl < w.heap.size := by obtain ⟨_, h, _⟩ := h; exact h.lt
theorem LS.cell {w : World} {N gl : Nat} {g n c : Nat → Nat} (h : LS w N gl g n c) (i : Nat) (hi : i < N) : w.cell? ⟨gl, i, none⟩ = some (.slice (some ⟨g i, 0, none⟩) (n i) (c i)) := by
  obtain ⟨LA, h, r⟩ := h
  rw [h.cell i, r i hi]
structure But (N : Nat) (g : Nat → Nat) (w w' : World) : Prop where
  os : w'.os = w.os
  tape : w'.tape = w.tape
  output : w'.output = w.output
  size : w.heap.size ≤ w'.heap.size
  block : ∀ k, k < w.heap.size → (∀ q, q < N → k ≠ g q) → w'.heap[k]? = w.heap[k]?
theorem But.refl (N : Nat) (g : Nat → Nat) (w : World) : But N g w w := ⟨rfl, rfl, rfl, Nat.le_refl _, fun _ _ _ => rfl⟩
theorem But.grown {N : Nat} {g : Nat → Nat} {a w w' : World} {row : Nat} (h : But N g a w) (gr : w.grownBy w' (some row)) (hr : (∃ q, q < N ∧ row = g q) ∨ a.heap.size ≤ row) : But N g a w' :=
  ⟨gr.os.trans h.os, gr.tape.trans h.tape, gr.output.trans h.output, Nat.le_trans h.size gr.size, fun k hk hq => (gr.block k (Nat.lt_of_lt_of_le hk h.size) (fun e => by
    have e' : k = row := by simpa using e
    rcases hr with ⟨q, hqN, e2⟩ | h2
    · exact hq q hqN (e'.trans e2)
    · omega)).trans (h.block k hk hq)⟩
theorem But.below {N : Nat} {g : Nat → Nat} {a w w' : World} (h : But N g a w) (b : Below w.heap.size w w') : But N g a w' :=
  ⟨b.os.trans h.os, b.tape.trans h.tape, b.output.trans h.output, Nat.le_trans h.size b.size, fun k hk hq => (b.block k (Nat.lt_of_lt_of_le hk h.size)).trans (h.block k hk hq)⟩

structure P1 (w0 w : World) (N gl gg : Nat) (g n c : Nat → Nat) (k j : Nat) : Prop where
  ls : LS w N gl g n c
  gs : ∃ cs : Array Value, Box w gg cs 37 ∧ cs.size = N
  gg0 : w0.heap.size ≤ gg
  gl0 : gl < w0.heap.size
  row : ∀ i, i < N → Marked w i (g i) (c i) (if i < k then n i else if i = k then j else 0)
  but : But N g w0 w
theorem P1.below {w0 w w' : World} {N gl gg : Nat} {g n c : Nat → Nat} {k j : Nat} (h : P1 w0 w N gl gg g n c k j) (b : Below w.heap.size w w') : P1 w0 w' N gl gg g n c k j where
  ls := h.ls.kept (b.block _ h.ls.lt)
  gs := by
    obtain ⟨cs, hb, hs⟩ := h.gs
    exact ⟨cs, (b.block _ hb.lt).trans hb, hs⟩
  gg0 := h.gg0
  gl0 := h.gl0
  row := fun i hi => (h.row i hi).kept (b.block _ (h.row i hi).lt)
  but := h.but.below b
theorem P1.next {w0 w : World} {N gl gg : Nat} {g n c : Nat → Nat} {k : Nat} (h : P1 w0 w N gl gg g n c k (n k)) : P1 w0 w N gl gg g n c (k + 1) 0 where
  ls := h.ls
  gs := h.gs
  gg0 := h.gg0
  gl0 := h.gl0
  row := fun i hi => by
    have := h.row i hi
    by_cases e : i < k
    · rw [if_pos (by omega)]
      rw [if_pos e] at this
      exact this
    · rw [if_neg e] at this
      by_cases e2 : i = k
      · subst e2
        rw [if_pos rfl] at this
        rw [if_pos (by omega)]
        exact this
      · rw [if_neg e2] at this
        rw [if_neg (by omega)]
        split
        · exact this
        · exact this
  but := h.but
theorem P1.here {w0 w : World} {N gl gg : Nat} {g n c : Nat → Nat} {k j : Nat} (h : P1 w0 w N gl gg g n c k j) (hk : k < N) : Marked w k (g k) (c k) j := by
  have := h.row k hk
  rw [if_neg (Nat.lt_irrefl _), if_pos rfl] at this
  exact this
theorem P1.step {w0 w : World} {N gl gg : Nat} {g n c : Nat → Nat} {k j : Nat} (h : P1 w0 w N gl gg g n c k j) (hk : k < N) (hj : j < c k) (hap : ∀ i, i < N → ∀ q, q < N → i ≠ q → g i ≠ g q) : P1 w0 (w.setCell ⟨g k, j, none⟩ (.int .u8 (mrk k j))) N gl gg g n c k (j + 1) where
  ls := by
    obtain ⟨LA, hb, r⟩ := h.ls
    exact ⟨LA, (heap_setCell_other w ⟨g k, j, none⟩ gl _ ((h.here hk).ne hb)).trans hb, r⟩
  gs := by
    obtain ⟨cs, hb, hs⟩ := h.gs
    exact ⟨cs, (heap_setCell_other w ⟨g k, j, none⟩ gg _ ((h.here hk).ne hb)).trans hb, hs⟩
  gg0 := h.gg0
  gl0 := h.gl0
  row := fun i hi => by
    by_cases e : i = k
    · subst e
      rw [if_neg (Nat.lt_irrefl _), if_pos rfl]
      exact (h.here hk).store hj
    · have := (h.row i hi).kept (heap_setCell_other w ⟨g k, j, none⟩ (g i) (.int .u8 (mrk k j)) (hap i hi k hk e))
      rw [if_neg e] at this ⊢
      exact this
  but := h.but.grown (grown_store w (g k) j _) (.inl ⟨k, hk, rfl⟩)

structure P2 (w0 w : World) (N gl gg : Nat) (g n c : Nat → Nat) (k : Nat) (b cb : Nat → Nat) : Prop where
  ls : LS w N gl g n c
  gs : ∃ cs : Array Value, Box w gg cs 37 ∧ cs.size = N ∧ ∀ i, i < k → cs[i]? = some (.slice (some ⟨b i, 0, none⟩) (n i + 40) (cb i))
  gg0 : w0.heap.size ≤ gg
  gl0 : gl < w0.heap.size
  row : ∀ i, i < N → Marked w i (g i) (c i) (n i)
  big : ∀ i, i < k → Marked w i (b i) (cb i) (n i + 40)
  off : ∀ i, i < k → ∀ q, q < N → q ≠ i → b i ≠ g q
  but : But N g w0 w
theorem P1.grow {w0 w : World} {N gl gg : Nat} {g n c : Nat → Nat} (h : P1 w0 w N gl gg g n c N 0) (b cb : Nat → Nat) : P2 w0 w N gl gg g n c 0 b cb where
  ls := h.ls
  gs := by
    obtain ⟨cs, hb, hs⟩ := h.gs
    exact ⟨cs, hb, hs, fun i hi => by omega⟩
  gg0 := h.gg0
  gl0 := h.gl0
  row := fun i hi => by
    have := h.row i hi
    rw [if_pos hi] at this
    exact this
  big := fun i hi => by omega
  off := fun i hi => by omega
  but := h.but
theorem P2.below {w0 w w' : World} {N gl gg : Nat} {g n c : Nat → Nat} {k : Nat} {b cb : Nat → Nat} (h : P2 w0 w N gl gg g n c k b cb) (bl : Below w.heap.size w w') : P2 w0 w' N gl gg g n c k b cb where
  ls := h.ls.kept (bl.block _ h.ls.lt)
  gs := by
    obtain ⟨cs, hb, hs⟩ := h.gs
    exact ⟨cs, (bl.block _ hb.lt).trans hb, hs⟩
  gg0 := h.gg0
  gl0 := h.gl0
  row := fun i hi => (h.row i hi).kept (bl.block _ (h.row i hi).lt)
  big := fun i hi => (h.big i hi).kept (bl.block _ (h.big i hi).lt)
  off := h.off
  but := h.but.below bl

structure P3 (w0 w : World) (N gl gg : Nat) (g n c : Nat → Nat) (k : Nat) (b cb : Nat → Nat) (bb cc m : Nat) : Prop where
  p2 : P2 w0 w N gl gg g n c k b cb
  cur : Marked w k bb cc m
  same : bb = g k → cc = c k
  place : bb = g k ∨ w0.heap.size ≤ bb
  off : ∀ q, q < N → q ≠ k → bb ≠ g q
  old : ∀ i, i < k → b i ≠ bb
  lim : cc ≤ maxLen
theorem P3.below {w0 w w' : World} {N gl gg : Nat} {g n c : Nat → Nat} {k : Nat} {b cb : Nat → Nat} {bb cc m : Nat} (h : P3 w0 w N gl gg g n c k b cb bb cc m) (bl : Below w.heap.size w w') : P3 w0 w' N gl gg g n c k b cb bb cc m :=
  ⟨h.p2.below bl, h.cur.kept (bl.block _ h.cur.lt), h.same, h.place, h.off, h.old, h.lim⟩
theorem P2.start {w0 w : World} {N gl gg : Nat} {g n c : Nat → Nat} {k : Nat} {b cb : Nat → Nat} (h : P2 w0 w N gl gg g n c k b cb) (hk : k < N) (hc : c k ≤ maxLen) (hap : ∀ i, i < N → ∀ q, q < N → i ≠ q → g i ≠ g q) : P3 w0 w N gl gg g n c k b cb (g k) (c k) (n k) :=
  ⟨h, h.row k hk, fun _ => rfl, .inl rfl, fun q hq hqk => hap k hk q hq (fun e => hqk e.symm), fun i hi => h.off i hi k hk (by omega), hc⟩
theorem P3.grown {w0 w w' : World} {N gl gg : Nat} {g n c : Nat → Nat} {k : Nat} {b cb : Nat → Nat} {bb cc m : Nat} (h : P3 w0 w N gl gg g n c k b cb bb cc m) (hk : k < N) (hm : n k ≤ m) (b' cc' : Nat) (mrk' : Marked w' k b' cc' (m + 1)) (hl : cc' ≤ maxLen)
    (hw : (b' = bb ∧ cc' = cc ∧ w.grownBy w' (some bb)) ∨ (w.heap.size ≤ b' ∧ Below w.heap.size w w')) : P3 w0 w' N gl gg g n c k b cb b' cc' (m + 1) := by
  rcases hw with ⟨rfl, rfl, gr⟩ | ⟨hb, bl⟩
  · have kp : ∀ q, q < w.heap.size → q ≠ b' → w'.heap[q]? = w.heap[q]? := fun q hq hn => gr.block q hq (fun e => hn (by simpa using e))
    refine ⟨⟨?_, ?_, h.p2.gg0, h.p2.gl0, fun i hi => ?_, fun i hi => ?_, h.p2.off, ?_⟩, mrk', h.same, h.place, h.off, h.old, hl⟩
    · obtain ⟨LA, hb, r⟩ := h.p2.ls
      exact ⟨LA, (kp gl hb.lt (h.cur.ne hb)).trans hb, r⟩
    · obtain ⟨cs, hb, hs⟩ := h.p2.gs
      exact ⟨cs, (kp gg hb.lt (h.cur.ne hb)).trans hb, hs⟩
    · by_cases e : i = k
      · subst e
        by_cases e2 : b' = g i
        · have := mrk'.less (show n i ≤ m + 1 by omega)
          rw [h.same e2, e2] at this
          exact this
        · exact (h.p2.row i hi).kept (kp _ (h.p2.row i hi).lt (fun e => e2 e.symm))
      · exact (h.p2.row i hi).kept (kp _ (h.p2.row i hi).lt (fun e2 => h.off i hi e e2.symm))
    · exact (h.p2.big i hi).kept (kp _ (h.p2.big i hi).lt (h.old i hi))
    · refine h.p2.but.grown gr ?_
      rcases h.place with e | e
      · exact .inl ⟨k, hk, e⟩
      · exact .inr e
  · have hp := h.p2.below bl
    have z := h.p2.but.size
    exact ⟨hp, mrk', fun e => by have := (h.p2.row k hk).lt; omega, .inr (by omega), fun q hq hqk e => by have := (h.p2.row q hq).lt; omega, fun i hi e => by have := (h.p2.big i hi).lt; omega, hl⟩
def at_ {α : Type} (f : Nat → α) (k : Nat) (x : α) : Nat → α := fun i => if i = k then x else f i
theorem at_same {α : Type} (f : Nat → α) (k : Nat) (x : α) : at_ f k x k = x := if_pos rfl
theorem at_other {α : Type} (f : Nat → α) (k i : Nat) (x : α) (h : i ≠ k) : at_ f k x i = f i := if_neg h
theorem P3.put {w0 w : World} {N gl gg : Nat} {g n c : Nat → Nat} {k : Nat} {b cb : Nat → Nat} {bb cc : Nat} (h : P3 w0 w N gl gg g n c k b cb bb cc (n k + 40)) (hk : k < N) :
    P2 w0 (w.setCell ⟨gg, k, none⟩ (.slice (some ⟨bb, 0, none⟩) (n k + 40) cc)) N gl gg g n c (k + 1) (at_ b k bb) (at_ cb k cc) := by
  obtain ⟨cs, hb, hs, he⟩ := h.p2.gs
  have kp : ∀ q, q ≠ gg → (w.setCell ⟨gg, k, none⟩ (.slice (some ⟨bb, 0, none⟩) (n k + 40) cc)).heap[q]? = w.heap[q]? := fun q hn => heap_setCell_other w ⟨gg, k, none⟩ q _ hn
  have hgl : gl ≠ gg := by
    have := h.p2.gl0
    have := h.p2.gg0
    omega
  refine ⟨h.p2.ls.kept (kp gl hgl), ⟨_, hb.store k _, by rw [Array.size_setIfInBounds]; exact hs, fun i hi => ?_⟩, h.p2.gg0, h.p2.gl0, fun i hi => (h.p2.row i hi).kept (kp _ (fun e => (h.p2.row i hi).ne hb e.symm)), fun i hi => ?_, fun i hi q hq hqi => ?_, h.p2.but.grown (grown_store w gg k _) (.inr h.p2.gg0)⟩
  · rw [Array.getElem?_setIfInBounds]
    by_cases e : i = k
    · subst e
      rw [if_pos rfl, if_pos (by omega), at_same, at_same]
    · rw [if_neg (fun e2 => e e2.symm), at_other _ _ _ _ e, at_other _ _ _ _ e]
      exact he i (by omega)
  · by_cases e : i = k
    · subst e
      rw [at_same, at_same]
      exact h.cur.kept (kp _ (fun e => h.cur.ne hb e.symm))
    · rw [at_other _ _ _ _ e, at_other _ _ _ _ e]
      exact (h.p2.big i (by omega)).kept (kp _ (fun e2 => (h.p2.big i (by omega)).ne hb e2.symm))
  · by_cases e : i = k
    · subst e
      rw [at_same]
      exact h.off q hq hqi
    · rw [at_other _ _ _ _ e]
      exact h.p2.off i (by omega) q hq hqi
theorem P2.gsCell {w0 w : World} {N gl gg : Nat} {g n c : Nat → Nat} {k : Nat} {b cb : Nat → Nat} (h : P2 w0 w N gl gg g n c k b cb) (i : Nat) (hi : i < k) : w.cell? ⟨gg, i, none⟩ = some (.slice (some ⟨b i, 0, none⟩) (n i + 40) (cb i)) := by
  obtain ⟨cs, hb, _, he⟩ := h.gs
  rw [hb.cell i, he i hi]
end Go.Proofs.YtnldkpckojhbhaaGreat.Rc.Apart

/-
  The walk of ApartBytes.
-/
namespace Go.Proofs.YtnldkpckojhbhaaGreat.Rc.Apart
open Go.RowKit

theorem wpList_append_ran {w : World} {ops : Array Oper} {rest : List Oper} {o : Oper} {a : Act} {Q : Exit → Act → World → Prop} (hgd : o.guard = none) (sl x : Operand) (t u : TypeId)
    (ho : o.op = .call { callee := .builtin .append, args := #[sl, x], argTypes := #[t, u] }) (v s v' : Value) (W : World) (hs : a.eval sl = v) (hx : a.eval x = s)
    (hrun : (Builtin.append_ #[t, u] o.type #[v, s]).run Tryz.prog w = .ok v' W) (h : wpList Tryz.prog ops Q rest (a.put o.dst v') W) : wpList Tryz.prog ops Q (o :: rest) a w := by
  refine wpList_plain hgd fun K hK => ?_
  unfold Oper.wp execOp
  simp only [ho, resolve, invoke, builtin, Sem.run_bind, Sem.run_pure, Result.andThen_ok, List.map_toArray, List.map_cons, List.map_nil, hs, hx, hrun]
  exact hK _ _ h

theorem make_lists (N : Nat) (hN : N ≤ 1000) (u : World) : ∃ cs : Array Value, cs.size = N ∧ (Instr.makeSlice 46 (.int .i64 (N : Int)) (.int .i64 (N : Int))).run Tryz.prog u = .ok (.slice (some ⟨u.heap.size, 0, none⟩) N N) (u.alloc (.cells cs 37)) := by
  obtain ⟨i0, hi, hz0, hz1, hz2⟩ := info_parts infoB
  have h := run_make (P := Tryz.prog) u 46 37 i0 (.slice none 0 0) Tryz.underlying46 hi hz0 .i64 .i64 (N : Int) (N : Int) (by omega) (Int.le_refl _) (by rw [hz2]; omega) (by omega)
  have e : ((N : Int)).toNat = N := by omega
  rw [e, hz1, Nat.mul_one] at h
  exact ⟨_, by simp [madeCells, Value.cells], h⟩

theorem below_drawn (w : World) (n : Nat) : Below w.heap.size w (w.drewN n) := ⟨rfl, rfl, rfl, Nat.le_refl _, fun _ _ => rfl⟩

set_option maxRecDepth 100000 in
set_option maxHeartbeats 8000000 in
theorem apart_at (N gl cl : Nat) (g n c : Nat → Nat) (w : World) (hN : N ≤ 400) (hls : LS w N gl g n c) (hrow : ∀ i, i < N → ∃ cur : Array Value, Box w (g i) cur 5 ∧ cur.size = c i) (hsz : ∀ i, i < N → n i ≤ c i ∧ c i ≤ maxLen ∧ n i ≤ 100000)
    (hap : ∀ i, i < N → ∀ q, q < N → i ≠ q → g i ≠ g q) :
    Calls Tryz.prog 57 #[.slice (some ⟨gl, 0, none⟩) N cl] w fun e w' => e = .returned (.bool true) ∧ But N g w w' := by
  obtain ⟨cs0, hcs0, hmk⟩ := make_lists N (by omega) w
  have bA := (Below.refl w.heap.size w).alloc (Nat.le_refl _) (.cells cs0 37)
  have I0 : P1 w (w.alloc (.cells cs0 37)) N gl w.heap.size g n c 0 0 := ⟨hls.kept (bA.block _ hls.lt), ⟨cs0, Box.new _ _ _, hcs0⟩, Nat.le_refl _, hls.lt, fun i hi => by
    obtain ⟨cur, hb, hs⟩ := hrow i hi
    have : (if i < 0 then n i else if i = 0 then 0 else 0) = 0 := by split <;> (try split) <;> omega
    rw [this]
    exact ⟨cur, (bA.block _ hb.lt).trans hb, hs, by omega, fun j hj => by omega⟩, (But.refl N g w).below bA⟩
  obtain ⟨gg, hgg⟩ : ∃ gg, gg = w.heap.size := ⟨_, rfl⟩
  obtain ⟨W0, hW0⟩ : ∃ W0, W0 = w.alloc (.cells cs0 37) := ⟨_, rfl⟩
  rw [← hW0] at I0
  rw [← hgg] at I0
  have HW0 : Hid _ := hW0
  have Hgg : Hid _ := hgg
  have Hsz : Hid _ := hsz
  have Hap : Hid _ := hap
  clear hW0 hgg hsz hap bA hcs0 hls hrow
  go_enter Tryz.func57, Tryz.ntmps57
  go_wp2_with fail
  rw [← HW0.out, ← Hgg.out]
  clear HW0 Hgg hmk
  go_loopw [4] (fun i wr => ∃ k : Nat, k ≤ N ∧ i = .int .i64 k ∧ P1 w wr N gl gg g n c k 0) (fun i _ => N - (intOf i).toNat)
  case atStart => exact ⟨0, by omega, rfl, I0⟩
  case round =>
    clear I0
    obtain ⟨k, hk, rfl, I⟩ := hrel
    by_cases hlt : k < N
    · have HI : Hid (P1 w wr N gl gg g n c k 0) := I
      obtain ⟨s1, s2, s3⟩ := Hsz.out k hlt
      have gN : (k : Int) < (N : Int) := by omega
      clear I
      go_wp2_with fail
      go_loopw [5] (fun i wr => ∃ j : Nat, j ≤ n k ∧ i = .int .i64 j ∧ P1 w wr N gl gg g n c k j) (fun i _ => n k - (intOf i).toNat)
      case atStart => exact ⟨0, by omega, rfl, HI.out⟩
      case round =>
        clear HI
        obtain ⟨j, hj, rfl, I⟩ := hrel
        have cls := I.ls.cell k hlt
        by_cases hjl : j < n k
        · have HI : Hid (P1 w wr N gl gg g n c k j) := I
          clear I
          go_upto_region 8 with fail
          clear cls
          refine wp_region_any (by kernel_rfl) ?_
          change wpAny _ _ _ _ _ _ _ (World.drew _)
          refine wpAny_take (i := 0) (v := ?_) rfl (by kernel_rfl) (by kernel_rfl) (by kernel_rfl) (fun _ _ _ h => h) (Or.inl ⟨by rfl, ?_⟩) ?_
          rotate_left
          · intro w
            go_simp
            with_reducible rfl
          refine wpAny_take (i := 1) (v := ?_) rfl (by kernel_rfl) (by kernel_rfl) (by kernel_rfl) (fun _ _ _ h => h) (Or.inl ⟨by rfl, ?_⟩) ?_
          rotate_left
          · intro w
            go_simp
            with_reducible rfl
          refine wpAny_take (i := 4) (v := ?_) rfl (by kernel_rfl) (by kernel_rfl) (by kernel_rfl) (fun _ _ _ h => h) (Or.inl ⟨by rfl, ?_⟩) ?_
          rotate_left
          · intro w
            go_simp
            with_reducible rfl
          refine wpAny_take (i := 5) (v := ?_) rfl (by kernel_rfl) (by kernel_rfl) (by kernel_rfl) (fun _ _ _ h => h) (Or.inl ⟨by rfl, ?_⟩) ?_
          rotate_left
          · intro w
            go_simp
            with_reducible rfl
          refine wpAny_take (i := 6) (v := ?_) rfl (by kernel_rfl) (by kernel_rfl) (by kernel_rfl) (fun _ _ _ h => h) (Or.inl ⟨by rfl, ?_⟩) ?_
          rotate_left
          · intro w
            go_simp
            with_reducible rfl
          simp only [Act.put, List.setIfInBounds_toArray, List.set_cons_zero, List.set_cons_succ, List.getElem_toArray, List.getElem_cons_zero, List.getElem_cons_succ]
          have I : P1 w wr.drew N gl gg g n c k j := P1.below HI.out (Below.refl _ _).drew
          clear HI
          obtain ⟨W, hW⟩ : ∃ W, W = wr.drew := ⟨_, rfl⟩
          rw [← hW] at I ⊢
          clear hW
          have cls := I.ls.cell k hlt
          obtain ⟨v0, c0⟩ := (I.here hlt).has j (by omega)
          have f0 := (I.here hlt).frozen j
          have hN9 : N ≤ 400 := hN
          refine wpAny_take (i := 2) (v := ?_) rfl (by kernel_rfl) (by kernel_rfl) (by kernel_rfl) (fun _ _ _ h => h) (Or.inl ⟨by rfl, ?_⟩) ?_
          rotate_left
          · intro w
            go_simp
            with_reducible rfl
          simp only [Act.put, List.setIfInBounds_toArray, List.set_cons_zero, List.set_cons_succ, List.getElem_toArray, List.getElem_cons_zero, List.getElem_cons_succ]
          refine wpAny_of_late (C := SlotsCells [(31, .pointer (some ⟨gl, k, none⟩))] [(⟨gl, k, none⟩, .slice (some ⟨g k, 0, none⟩) (n k) (c k))]) (late := [8, 9]) _ _ _ _ ?_
          refine wpAnyD_take (i := 3) (v := .slice (some ⟨g k, 0, none⟩) (n k) (c k)) rfl (by kernel_rfl) (by kernel_rfl) (by kernel_rfl) (by kernel_rfl) (fun _ _ _ h => h) ?_ (fun fr u h => (SlotsCells.put 32 _ (by rfl)).1 h) (fun fr u h => (SlotsCells.put 32 _ (by rfl)).2 h) ?_ ?_
          · intro fr u hh
            obtain ⟨e1, e2⟩ := hh.load (s := 31) (p := ⟨gl, k, none⟩) (v := .slice (some ⟨g k, 0, none⟩) (n k) (c k)) (by simp) (by simp)
            exact ⟨rfl, by simp [execOp, e1, go_sem, e2]⟩
          · refine ⟨fun p hp => ?_, fun q hq => ?_⟩
            · simp at hp
              subst hp
              rfl
            · simp at hq
              subst hq
              exact cls
          simp only [Act.put, List.setIfInBounds_toArray, List.set_cons_zero, List.set_cons_succ, List.getElem_toArray, List.getElem_cons_zero, List.getElem_cons_succ]
          refine wpAnyD_one (i := 7) (by kernel_rfl) rfl (fun K hK => ?_)
          go_simp
          refine (mark_at k j W (by omega) (by omega)).mono ?_
          rintro e w3 ⟨rfl, rfl⟩
          refine hK _ _ ⟨?_, ?_⟩
          · refine .inr ⟨fun p hp => ?_, fun q hq => ?_⟩
            · simp at hp
              subst hp
              rfl
            · simp at hq
              subst hq
              exact cls
          clear hK K
          refine wpAnyD_one (i := 8) (by kernel_rfl) rfl (fun K hK => ?_)
          go_simp
          refine hK _ _ ⟨.inl rfl, ?_⟩
          clear hK K
          refine wpAnyD_one (i := 9) (by kernel_rfl) rfl (fun K hK => ?_)
          go_simp
          refine hK _ _ ⟨.inl rfl, ?_⟩
          clear hK K
          refine wpAnyD_done (by kernel_rfl) ?_ _
          have I2 := I.step hlt (by omega) Hap.out
          generalize w3.setCell ⟨g k, j, none⟩ (.int .u8 (mrk k j)) = X at I2 ⊢
          clear I cls c0 f0
          go_wp2
          go_roundw
          case rel => exact ⟨j + 1, by omega, by go_num, I2⟩
          case measure => simp [intOf]; omega
        · have hjn : j = n k := by omega
          subst hjn
          have I2 := I.next
          go_wp2
          go_roundw
          case rel => exact ⟨k + 1, by omega, by go_num, I2⟩
          case measure => simp [intOf]; omega
    · have hkN : k = N := by omega
      rw [hkN] at I ⊢
      have J0 := I.grow (fun _ => 0) (fun _ => 0)
      clear I hkN hlt hk
      go_wp2_with fail
      go_loopw [6] (fun i wr => ∃ (k : Nat) (b cb : Nat → Nat), k ≤ N ∧ i = .int .i64 k ∧ P2 w wr N gl gg g n c k b cb) (fun i _ => N - (intOf i).toNat)
      case atStart => exact ⟨0, _, _, by omega, rfl, J0⟩
      case round =>
        clear J0
        obtain ⟨k, b, cb, hk, rfl, J⟩ := hrel
        by_cases hlt : k < N
        · obtain ⟨s1, s2, s3⟩ := Hsz.out k hlt
          have gN : (k : Int) < (N : Int) := by omega
          have cls := J.ls.cell k hlt
          have K0 := J.start hlt s2 Hap.out
          have HK : Hid _ := K0
          clear J K0
          go_wp2_with fail
          clear cls
          go_loopw [7, 8] (fun v i wr => ∃ (j bb cc : Nat), j ≤ 40 ∧ v = .slice (some ⟨bb, 0, none⟩) (n k + j) cc ∧ i = .int .i64 j ∧ P3 w wr N gl gg g n c k b cb bb cc (n k + j)) (fun _ i _ => 40 - (intOf i).toNat)
          case atStart => exact ⟨0, g k, c k, by omega, rfl, rfl, HK.out⟩
          case round =>
            clear HK
            obtain ⟨j, bb, cc, hj, rfl, rfl, J⟩ := hrel
            by_cases hj40 : j < 40
            · have hj2 : (j : Int) < 40 := by omega
              have cls := J.p2.ls.cell k hlt
              have cM := mark_at k (n k + j) wr (by omega) (by omega)
              rw [show ((n k + j : Nat) : Int) = (n k : Int) + (j : Int) by omega] at cM
              have HJ : Hid _ := J
              clear J
              go_wp2_with fail
              refine cM.mono ?_
              rintro e w3 ⟨rfl, rfl⟩
              clear cM cls
              obtain ⟨ga, hga⟩ : ∃ ga, ga = w3.heap.size := ⟨_, rfl⟩
              obtain ⟨V, hV⟩ : ∃ V, V = w3.alloc (.cells #[.int .u8 (mrk k (n k + j))] 5) := ⟨_, rfl⟩
              have bA : Below w3.heap.size w3 V := by rw [hV]; exact (Below.refl _ _).alloc (Nat.le_refl _) _
              have xV : V.cell? ⟨ga, 0, none⟩ = some (.int .u8 (mrk k (n k + j))) := by rw [hV, hga]; exact (Box.new w3 #[.int .u8 (mrk k (n k + j))] 5).cell 0
              have JV := P3.below HJ.out bA
              obtain ⟨b', cc', w4, hrun, m4, l4, hw4⟩ := JV.cur.append JV.lim 37 ga xV (by omega)
              have J4 := JV.grown hlt (by omega) b' cc' m4 l4 hw4
              have HV : Hid _ := hV
              have HG : Hid _ := hga
              have HJ4 : Hid _ := J4
              clear hV hga J4 JV m4 l4 hw4 xV bA HJ
              go_wp2_with (rw [← HG.out, ← HV.out]; at_builtin; refine wpList_append_ran rfl _ _ 37 37 rfl _ _ _ w4 rfl rfl hrun ?_)
              go_roundw
              case rel => exact ⟨j + 1, b', cc', by omega, rfl, by go_num, HJ4.out⟩
              case measure => simp [intOf]; omega
            · have hj4 : j = 40 := by omega
              subst j
              have J2 := J.put hlt
              obtain ⟨cs, hb, hs, _⟩ := J.p2.gs
              have cg : wr.cell? ⟨gg, k, none⟩ = some (cs[k]'(by omega)) := by rw [hb.cell k, Array.getElem?_eq_getElem]
              have fg := hb.frozen k
              generalize (cs[k]'(by omega)) = vg at cg
              clear J hb
              go_wp2
              go_roundw
              case rel => exact ⟨k + 1, _, _, by omega, by go_num, J2⟩
              case measure => simp [intOf]; omega
        · have hkN : k = N := by omega
          rw [hkN] at J ⊢
          clear hkN hlt hk
          go_wp2_with fail
          go_loopw [9] (fun i wr => ∃ k : Nat, k ≤ N ∧ i = .int .i64 k ∧ P2 w wr N gl gg g n c N b cb) (fun i _ => N - (intOf i).toNat)
          case atStart => exact ⟨0, by omega, rfl, J⟩
          case round =>
            clear J
            obtain ⟨k, hk, rfl, J⟩ := hrel
            by_cases hlt : k < N
            · obtain ⟨s1, s2, s3⟩ := Hsz.out k hlt
              have gN : (k : Int) < (N : Int) := by omega
              have HJ : Hid _ := J
              clear J
              go_wp2_with fail
              go_loopw [10] (fun i wr => ∃ j : Nat, j ≤ n k + 40 ∧ i = .int .i64 j ∧ P2 w wr N gl gg g n c N b cb) (fun i _ => n k + 40 - (intOf i).toNat)
              case atStart => exact ⟨0, by omega, rfl, HJ.out⟩
              case round =>
                clear HJ
                obtain ⟨j, hj, rfl, J⟩ := hrel
                have cg := J.gsCell k hlt
                have cl0 := J.ls.cell k hlt
                by_cases hjl : j < n k + 40
                · have c1 := (J.big k hlt).cell j hjl
                  obtain ⟨_, _, _, bl, _⟩ := J.big k hlt
                  have cM := fun q => mark_at k j (wr.drewN q) (by omega) (by omega)
                  have HJ : Hid (P2 w wr N gl gg g n c N b cb) := J
                  by_cases hjn : j < n k
                  · have c2 := (J.row k hlt).cell j hjn
                    clear J
                    go_upto_region 24 with fail
                    go_quiet (exact Calls.quiet_of_same (cM _))
                    have J5 := P2.below HJ.out (below_drawn wr nq)
                    generalize wr.drewN nq = X at J5 ⊢
                    clear HJ cM c1 c2 cg cl0
                    go_wp2
                    go_roundw
                    case rel => exact ⟨j + 1, by omega, by go_num, J5⟩
                    case measure => simp [intOf]; omega
                  · have hjn2 : ¬ (j : Int) < (n k : Int) := by omega
                    clear J
                    go_upto_region 24 with fail
                    go_quiet (exact Calls.quiet_of_same (cM _))
                    have J5 := P2.below HJ.out (below_drawn wr nq)
                    generalize wr.drewN nq = X at J5 ⊢
                    clear HJ cM c1 cg cl0
                    go_wp2
                    go_roundw
                    case rel => exact ⟨j + 1, by omega, by go_num, J5⟩
                    case measure => simp [intOf]; omega
                · have hjn : j = n k + 40 := by omega
                  subst hjn
                  go_wp2
                  go_roundw
                  case rel => exact ⟨k + 1, by omega, by go_num, J⟩
                  case measure => simp [intOf]; omega
            · have hkN : k = N := by omega
              rw [hkN]
              have hb := J.but
              clear J
              go_wp2
              go_ret
              exact ⟨rfl, hb⟩
end Go.Proofs.YtnldkpckojhbhaaGreat.Rc.Apart

/-
  VolumeSpares: answers share no memory.
-/
namespace Go.Proofs.YtnldkpckojhbhaaGreat.V
open Go.RowKit
open Go.Proofs.YtnldkpckojhbhaaGreat.Dk (Box DS IsDisk Upd Rd RowB nought)
open Go.Proofs.YtnldkpckojhbhaaGreat.Rc (GG GetJ imgC Imgs madeL)

structure But4 (g0 g1 g2 g3 : Nat) (w w' : World) : Prop where
  os : w'.os = w.os
  tape : w'.tape = w.tape
  output : w'.output = w.output
  size : w.heap.size ≤ w'.heap.size
  block : ∀ k, k < w.heap.size → k ≠ g0 → k ≠ g1 → k ≠ g2 → k ≠ g3 → w'.heap[k]? = w.heap[k]?
theorem apart4 (W : World) (gl g0 g1 g2 g3 c0 c1 c2 c3 : Nat) (y0 y1 y2 y3 : List UInt8) (hL : Box W gl #[.slice (some ⟨g0, 0, none⟩) 4096 c0, .slice (some ⟨g1, 0, none⟩) 4096 c1, .slice (some ⟨g2, 0, none⟩) 4096 c2, .slice (some ⟨g3, 0, none⟩) 4096 c3] 37)
    (r0 : RowB W g0 c0 y0) (r1 : RowB W g1 c1 y1) (r2 : RowB W g2 c2 y2) (r3 : RowB W g3 c3 y3) (l0 : y0.length = 4096) (l1 : y1.length = 4096) (l2 : y2.length = 4096) (l3 : y3.length = 4096) (h01 : g0 < g1) (h12 : g1 < g2) (h30 : g3 < g0) :
    Calls Tryz.prog 57 #[.slice (some ⟨gl, 0, none⟩) 4 4] W fun e w' => e = .returned (.bool true) ∧ But4 g0 g1 g2 g3 W w' := by
  have row : ∀ {g c : Nat} {y : List UInt8}, RowB W g c y → y.length = 4096 → (∃ cur : Array Value, Rc.Apart.Box W g cur 5 ∧ cur.size = c) ∧ 4096 ≤ c ∧ c ≤ maxLen := fun hr hl => by
    obtain ⟨cur, hb, h1, h2, h3, _⟩ := hr
    exact ⟨⟨cur, hb, h3⟩, by omega, h2⟩
  have c := Rc.Apart.apart_at 4 gl 4 (fun i => match i with | 0 => g0 | 1 => g1 | 2 => g2 | _ => g3) (fun _ => 4096) (fun i => match i with | 0 => c0 | 1 => c1 | 2 => c2 | _ => c3) W (by decide)
    ⟨_, hL, fun i hi => by
      match i, hi with
      | 0, _ => rfl
      | 1, _ => rfl
      | 2, _ => rfl
      | 3, _ => rfl⟩
    (fun i hi => by
      match i, hi with
      | 0, _ => exact (row r0 l0).1
      | 1, _ => exact (row r1 l1).1
      | 2, _ => exact (row r2 l2).1
      | 3, _ => exact (row r3 l3).1)
    (fun i hi => by
      match i, hi with
      | 0, _ => exact ⟨(row r0 l0).2.1, (row r0 l0).2.2, by omega⟩
      | 1, _ => exact ⟨(row r1 l1).2.1, (row r1 l1).2.2, by omega⟩
      | 2, _ => exact ⟨(row r2 l2).2.1, (row r2 l2).2.2, by omega⟩
      | 3, _ => exact ⟨(row r3 l3).2.1, (row r3 l3).2.2, by omega⟩)
    (fun i hi q hq hne => by
      match i, hi, q, hq with
      | 0, _, 0, _ => exact absurd rfl hne
      | 0, _, 1, _ => show g0 ≠ g1; omega
      | 0, _, 2, _ => show g0 ≠ g2; omega
      | 0, _, 3, _ => show g0 ≠ g3; omega
      | 1, _, 0, _ => show g1 ≠ g0; omega
      | 1, _, 1, _ => exact absurd rfl hne
      | 1, _, 2, _ => show g1 ≠ g2; omega
      | 1, _, 3, _ => show g1 ≠ g3; omega
      | 2, _, 0, _ => show g2 ≠ g0; omega
      | 2, _, 1, _ => show g2 ≠ g1; omega
      | 2, _, 2, _ => exact absurd rfl hne
      | 2, _, 3, _ => show g2 ≠ g3; omega
      | 3, _, 0, _ => show g3 ≠ g0; omega
      | 3, _, 1, _ => show g3 ≠ g1; omega
      | 3, _, 2, _ => show g3 ≠ g2; omega
      | 3, _, 3, _ => exact absurd rfl hne)
  refine c.mono ?_
  rintro r w' ⟨rfl, h⟩
  refine ⟨rfl, h.os, h.tape, h.output, h.size, fun k hk k0 k1 k2 k3 => h.block k hk (fun q hq => ?_)⟩
  match q, hq with
  | 0, _ => exact k0
  | 1, _ => exact k1
  | 2, _ => exact k2
  | 3, _ => exact k3
def isz (ml : List UInt8) : List (Int × List UInt8) := [(30, ml)]
theorem isz_ok (ml : List UInt8) (h4 : ml.length = 4096) : MayG (isz ml) ∧ (∀ i ∈ isz ml, 18 ≤ i.1 ∧ i.1 ≤ 63) ∧ Rc.okGroup 2 1 (isz ml) := by
  have hlen : ∀ i ∈ isz ml, i.2.length = 4096 := fun i hi => by
    have e : i = (30, ml) := List.mem_singleton.1 hi
    rw [e]
    exact h4
  have hin : ∀ i ∈ isz ml, i.1 = 30 := fun i hi => by
    have e : i = (30, ml) := List.mem_singleton.1 hi
    rw [e]
  have hm : (isz ml).map (·.1) = [30] := rfl
  refine ⟨⟨Nat.le_refl _, (by show 1 ≤ 32; decide), hlen, by rw [hm]; decide, fun i hi => by rw [hin i hi]; rfl⟩, fun i hi => by rw [hin i hi]; decide, ?_, hlen⟩
  rw [hm]
  refine ⟨rfl, by decide, ?_⟩
  intro j h _
  match j, h with
  | 0, _ => simp
set_option maxRecDepth 100000 in
set_option maxHeartbeats 4000000 in
theorem spares_at (n : Int) (hn : (Lit.int .i64 n).wf = true) (w : World) : Calls Tryz.prog 9 #[.int .i64 n] w fun r w' => r = .returned (.bool true) ∧ Below w.heap.size w w' := by
  have hN : -9223372036854775808 ≤ n ∧ n ≤ 9223372036854775807 := by
    simp [Lit.wf, IntKind.min, IntKind.max, IntKind.bits, IntKind.signed] at hn
    omega
  have HN : Hid (-9223372036854775808 ≤ n ∧ n ≤ 9223372036854775807) := hN
  obtain ⟨ml, hml⟩ : ∃ l, l = madeL n 4096 := ⟨_, rfl⟩
  have HM4 : Hid (ml.length = 4096) := by rw [hml]; exact Rc.madeK_length n 4096 4096
  have HMd : Hid (∀ u, Calls Tryz.prog 21 #[.int .i64 n, .int .i64 4096] u fun e w' => e = .returned (.slice (some ⟨u.heap.size, 0, none⟩) 4096 4096) ∧ Rc.Own w' u.heap.size ml ∧ Below u.heap.size u w') := fun u => by
    rw [hml]
    exact Rc.made_at n 4096 u (by decide)
  have HIm : Hid (J.imgZ [30] n 1 = isz ml) := by rw [hml]; rfl
  have c0 := fresh_at w
  clear hn hN hml
  go_enter Tryz.func9, Tryz.ntmps9
  go_wp2_with fail
  refine Calls.mono c0 ?_
  rintro r wu1 ⟨g, v, j, gm, F, D, rfl, hv, hq, hu, hFl, hvl, hgl, B1⟩
  have HV : Hid (VW wu1 v g j gm 2 false (J.opened 64 2 1 0) [] D 0 (fun _ => none) F) := hv
  have HQ : Hid (Mq D f2 24 ∧ D.uf = []) := ⟨hq, hu⟩
  have HB1 : Hid ((∀ i, F i → w.heap.size ≤ i) ∧ w.heap.size ≤ gm ∧ w.heap.size ≤ v ∧ Below w.heap.size w wu1) := ⟨hFl, hgl, hvl, B1⟩
  clear c0 hv hq hu hFl hgl hvl B1
  go_wp2_with fail
  have b0 := (Below.refl wu1.heap.size wu1).alloc (Nat.le_refl _) (.cells #[.int .i64 30] 3)
  have x0 := Box.new wu1 #[.int .i64 30] 3
  obtain ⟨W0, hW0⟩ : ∃ W, W = wu1.alloc (.cells #[.int .i64 30] 3) := ⟨_, rfl⟩
  rw [← hW0] at b0 x0 ⊢
  have cI := J.imagesZ_at W0 wu1.heap.size 0 1 1 n [30] rfl (by decide) HN.out (fun k hk => by
    match k, hk with
    | 0, _ => exact x0.cell 0)
  refine Calls.mono cI ?_
  rintro r wu2 ⟨a, c, qs, rfl, ho, hg, hqs, b2⟩
  obtain ⟨q, rfl⟩ : ∃ q, qs = [q] := by
    have : qs.length = 1 := by simpa [J.imgZ] using congrArg List.length hqs
    match qs, this with
    | [q], _ => exact ⟨q, rfl⟩
  have hqs2 : [q].map (fun p => (p.b, p.xs)) = isz ml := hqs.trans HIm.out
  have hqx : q.xs = ml := by simpa [isz] using congrArg (fun l => l.map (·.2)) hqs2
  obtain ⟨gi, rfl, hgB, _, hcell⟩ := Rc.owns_cells ho (by decide)
  obtain ⟨rq, hqB, hq4⟩ := hg.rows q (List.mem_singleton.2 rfl)
  have hci : wu2.cell? ⟨gi, 1, none⟩ = some (.slice (some ⟨q.h, 0, none⟩) 4096 q.c) := (hcell 1 (by decide)).trans rfl
  have b20 := b0.trans (b2.mono b0.size)
  have hq2 := rq.lt
  have cC := commit_made (HV.out.wide (fun i => i = q.h)) (fun i e => by rw [e]; exact hq2) b20 b0.size ho hg hqs2 rfl (isz_ok ml HM4.out).1 (isz_ok ml HM4.out).2.1 (by decide) (isz_ok ml HM4.out).2.2 rfl (by decide) rfl rfl (by decide) rfl HQ.out.1.calm HQ.out.1.nb (by rw [HQ.out.2]; decide) (by have := HQ.out.1.cnt; omega) (by decide) (by decide)
  rw [show (J.opened 64 2 1 0).next = 1 by rfl] at cC
  have HB2 : Hid (Below w.heap.size w wu2) := HB1.out.2.2.2.trans (b20.mono HB1.out.2.2.2.size)
  have hltV := HV.out.vlt
  have hfl1 : ∀ i, F i → i < wu1.heap.size := fun i hi => by
    obtain ⟨m, h1, _⟩ := HV.out
    exact h1.jd.flt i hi
  have hz0 := b0.size
  have HI : Hid (gi < wu2.heap.size ∧ ¬ F gi ∧ gi ≠ gm ∧ ¬ F q.h ∧ q.h ≠ gm ∧ q.h ≠ v ∧ w.heap.size ≤ q.h ∧ q.h < wu2.heap.size) := by
    refine ⟨block_lt_of_cell hci, fun hf => ?_, ?_, fun hf => ?_, ?_, ?_, ?_, hq2⟩
    · have := hfl1 _ hf; omega
    · omega
    · have := hfl1 _ hf; omega
    · omega
    · omega
    · have := HB1.out.2.2.2.size; omega
  have HCi : Hid (wu2.cell? ⟨gi, 1, none⟩ = some (.slice (some ⟨q.h, 0, none⟩) 4096 q.c)) := hci
  have HRq : Hid (RowB wu2 q.h q.c (ml)) := by rw [← hqx]; exact rq
  clear cI ho hg hqs hqs2 hqx b2 b0 b20 x0 hW0 hcell hci rq hqB hq4 hq2 hgB hltV hfl1 hz0
  generalize hh3 : q.h = h3 at cC HI HCi HRq
  generalize hc3 : q.c = c3 at HCi HRq
  clear hh3 hc3
  go_wp2_with fail
  refine Calls.mono cC ?_
  rintro r wu3 ⟨rfl, F3, hv3, hF3, U3⟩
  obtain ⟨D3, hD3⟩ : ∃ X, X = J.grow D 16 0 (Rc.putL 2 1 (isz ml)) 2 := ⟨_, rfl⟩
  have HV3 : Hid (∃ S xs, VWA (fun i => i = h3) wu3 v g j gm 2 false S xs D3 1 (dats (fun _ => none) (isz ml)) F3) := ⟨_, _, by rw [hD3]; exact hv3⟩
  have HD3 : Hid (D3.nb = 64 ∧ D3.gone = false ∧ D3.uf.length ≤ 1000000 ∧ D3.stand 31 = nought 4096) := by
    rw [hD3]
    refine ⟨HQ.out.1.nb, HQ.out.1.calm.1, ?_, ?_⟩
    · show (D.uf ++ J.wrs 16 0 (Rc.putL 2 1 (isz ml)) 2).length ≤ 1000000
      rw [HQ.out.2]
      generalize Rc.putL 2 1 (isz ml) = L
      simp [J.wrs]
    · rw [J.grow_out D 16 0 _ 31 2 (fun i hi => by omega), HQ.out.1.at_ 31 (by decide)]
      exact f2_zero 31 (by decide)
  have HB3 : Hid (Below w.heap.size w wu3) := upd_low HB2.out U3 (fun i hi => by
    rcases hi with h | h
    · exact HB1.out.1 i h
    · rw [h]; exact HB1.out.2.1)
  have HF3 : Hid (¬ F3 h3 ∧ wu2.heap.size ≤ wu3.heap.size) := ⟨fun hf => by
    rcases hF3 _ hf with h | h
    · exact HI.out.2.2.2.1 h
    · have := HI.out.2.2.2.2.2.2.2; omega, U3.size⟩
  have HCi3 : Hid (wu3.cell? ⟨gi, 1, none⟩ = some (.slice (some ⟨h3, 0, none⟩) 4096 c3)) := (World.cell?_of_block (a := ⟨gi, 1, none⟩) (U3.block gi HI.out.1 (fun h => h.elim HI.out.2.1 HI.out.2.2.1))).trans HCi.out
  have HRq3 : Hid (RowB wu3 h3 c3 (ml)) := HRq.out.same (U3.block h3 HI.out.2.2.2.2.2.2.2 (fun h => h.elim HI.out.2.2.2.1 HI.out.2.2.2.2.1))
  obtain ⟨S3, xs3, hv3⟩ := HV3.out
  have cR := read_mem hv3 30 rfl (ml) rfl
  clear cC hF3 hD3 U3 HCi HRq HV3
  have HV3 : Hid (VWA (fun i => i = h3) wu3 v g j gm 2 false S3 xs3 D3 1 (dats (fun _ => none) (isz ml)) F3) := hv3
  clear hv3
  go_wp2_with fail
  refine Calls.mono cR ?_
  rintro r wu4 ⟨g4, c4, rfl, hg4, r4, b4⟩
  have cR2 := read_mem (HV3.out.below b4) 30 rfl (ml) rfl
  have HR4 : Hid (RowB wu4 g4 c4 (ml)) := r4
  have HB4 : Hid (Below wu3.heap.size wu3 wu4) := b4
  have HG4 : Hid (wu3.heap.size ≤ g4) := hg4
  clear cR r4 b4 hg4
  go_wp2_with fail
  refine Calls.mono cR2 ?_
  rintro r wu5 ⟨g5, c5, rfl, hg5, r5, b5⟩
  have HB5 : Hid (Below wu3.heap.size wu3 wu5) := HB4.out.trans (b5.mono HB4.out.size)
  have cR3 := read_disk (HV3.out.below HB5.out) 31 (by decide) HD3.out.1 HD3.out.2.1 HD3.out.2.2.1 rfl
  have HR45 : Hid (RowB wu5 g4 c4 (ml)) := HR4.out.same (b5.block g4 HR4.out.lt)
  have HR5 : Hid (RowB wu5 g5 c5 (ml)) := r5
  have HG5 : Hid (g4 < g5) := by have := HR4.out.lt; show g4 < g5; omega
  clear cR2 r5 b5 hg5
  go_wp2_with fail
  refine Calls.mono cR3 ?_
  rintro r wu6 ⟨g6, c6, rfl, hg6, r6, b6⟩
  have HB6 : Hid (Below wu3.heap.size wu3 wu6) := HB5.out.trans (b6.mono HB5.out.size)
  have HR46 : Hid (RowB wu6 g4 c4 (ml)) := HR45.out.same (b6.block g4 HR45.out.lt)
  have HR56 : Hid (RowB wu6 g5 c5 (ml)) := HR5.out.same (b6.block g5 HR5.out.lt)
  have HR6 : Hid (RowB wu6 g6 c6 (D3.stand 31)) := r6
  have HG6 : Hid (g5 < g6) := by have := HR5.out.lt; show g5 < g6; omega
  have cM := HMd.out wu6
  clear cR3 r6 b6 hg6 HR4 HR5 HR45
  go_wp2_with fail
  refine Calls.mono cM ?_
  rintro r wu7 ⟨rfl, om, b7⟩
  have HB7 : Hid (Below wu3.heap.size wu3 wu7) := HB6.out.trans (b7.mono HB6.out.size)
  have cS := Dk.same_at c4 4096 4096 4096 (some ⟨g4, 0, none⟩) (some ⟨wu6.heap.size, 0, none⟩) ml ml wu7 HM4.out HM4.out (HR46.out.same (b7.block g4 HR46.out.lt)).rd om.rd
  rw [show (ml == ml) = true by simp] at cS
  have HR47 : Hid (RowB wu7 g4 c4 ml) := HR46.out.same (b7.block g4 HR46.out.lt)
  have HR57 : Hid (RowB wu7 g5 c5 ml) := HR56.out.same (b7.block g5 HR56.out.lt)
  have HR67 : Hid (RowB wu7 g6 c6 (nought 4096)) := by
    have := HR6.out.same (b7.block g6 HR6.out.lt)
    rw [HD3.out.2.2.2] at this
    exact this
  have k7 : wu7.cell? ⟨gi, 1, none⟩ = some (.slice (some ⟨h3, 0, none⟩) 4096 c3) := (HB7.out.cell (p := ⟨gi, 1, none⟩) (Nat.lt_of_lt_of_le HI.out.1 HF3.out.2)).trans HCi3.out
  have HR37 : Hid (RowB wu7 h3 c3 ml) := HRq3.out.same (HB7.out.block h3 HRq3.out.lt)
  clear cM om b7 HR46 HR56 HR6 HB6 HB5 HB4
  go_wp2_with fail
  refine Calls.mono cS ?_
  rintro r w' ⟨rfl, rfl⟩
  clear cS
  have bl := (Below.refl wu7.heap.size wu7).alloc (Nat.le_refl _) (.cells #[.slice (some ⟨g4, 0, none⟩) 4096 c4, .slice (some ⟨g5, 0, none⟩) 4096 c5, .slice (some ⟨g6, 0, none⟩) 4096 c6, .slice (some ⟨h3, 0, none⟩) 4096 c3] 37)
  have xl := Box.new wu7 #[.slice (some ⟨g4, 0, none⟩) 4096 c4, .slice (some ⟨g5, 0, none⟩) 4096 c5, .slice (some ⟨g6, 0, none⟩) 4096 c6, .slice (some ⟨h3, 0, none⟩) 4096 c3] 37
  obtain ⟨W8, hW8⟩ : ∃ W, W = wu7.alloc (.cells #[.slice (some ⟨g4, 0, none⟩) 4096 c4, .slice (some ⟨g5, 0, none⟩) 4096 c5, .slice (some ⟨g6, 0, none⟩) 4096 c6, .slice (some ⟨h3, 0, none⟩) 4096 c3] 37) := ⟨_, rfl⟩
  have HW8 : Hid (W8 = wu7.alloc (.cells #[.slice (some ⟨g4, 0, none⟩) 4096 c4, .slice (some ⟨g5, 0, none⟩) 4096 c5, .slice (some ⟨g6, 0, none⟩) 4096 c6, .slice (some ⟨h3, 0, none⟩) 4096 c3] 37)) := hW8
  rw [← hW8] at bl xl
  have hlt3 : h3 < g4 := by
    have h1 := HI.out.2.2.2.2.2.2.2
    have h2 := HF3.out.2
    have h3' := HG4.out
    omega
  have cA := apart4 W8 wu7.heap.size g4 g5 g6 h3 c4 c5 c6 c3 ml ml (nought 4096) ml xl (HR47.out.same (bl.block g4 HR47.out.lt)) (HR57.out.same (bl.block g5 HR57.out.lt)) (HR67.out.same (bl.block g6 HR67.out.lt)) (HR37.out.same (bl.block h3 HR37.out.lt)) HM4.out HM4.out (Dk.nought_length 4096) HM4.out HG5.out HG6.out hlt3
  have HB8 : Hid (Below wu3.heap.size wu3 W8) := HB7.out.trans (bl.mono HB7.out.size)
  clear bl xl hW8 HR47 HR57 HR67 HR37 hlt3
  go_wp2_with fail
  rw [← HW8.out]
  refine Calls.mono cA ?_
  rintro r wu9 ⟨rfl, B4⟩
  have hG4 := HG4.out
  have hG5 := HG5.out
  have hG6 := HG6.out
  have hsz8 := HB8.out.size
  have HV9 : Hid (VWA (fun i => i = h3) wu9 v g j gm 2 false S3 xs3 D3 1 (dats (fun _ => none) (isz ml)) F3) :=
    HV3.out.kept (fun i hi hne => (B4.block i (by omega) (by omega) (by omega) (by omega) hne).trans (HB8.out.block i hi)) (fun i e => by rw [e]; exact ⟨HF3.out.1, HI.out.2.2.2.2.2.1, HI.out.2.2.2.2.1⟩) (Nat.le_trans hsz8 B4.size)
  have hw3 := HB3.out.size
  have h3lo := HI.out.2.2.2.2.2.2.1
  have HB9 : Hid (Below w.heap.size w wu9) := by
    have b8 := HB3.out.trans (HB8.out.mono HB3.out.size)
    have z8 := b8.size
    exact b8.trans ⟨B4.os, B4.tape, B4.output, B4.size, fun k hk => B4.block k (by omega) (by omega) (by omega) (by omega) (by omega)⟩
  have cM := HMd.out wu9
  clear cA B4 hG4 hG5 hG6 hsz8 hw3 h3lo HW8 HV3 k7
  go_wp2_with fail
  refine Calls.mono cM ?_
  rintro r wu10 ⟨rfl, om, b10⟩
  have cH := has_at (read_mem (HV9.out.below b10) 30 rfl ml rfl) HM4.out (some ⟨wu9.heap.size, 0, none⟩) 4096 om.rd
  have HB10 : Hid (Below w.heap.size w wu10) := HB9.out.trans (b10.mono HB9.out.size)
  clear cM om b10
  go_wp2_with fail
  refine Calls.mono cH ?_
  rintro r wu11 ⟨rfl, b11⟩
  have HB11 : Hid (Below w.heap.size w wu11) := HB10.out.trans (b11.mono HB10.out.size)
  have cW := awake_at wu11
  clear cH b11
  go_wp2_with fail
  refine Calls.mono cW ?_
  rintro r wu12 ⟨rfl, b12⟩
  have HB12 : Hid (Below w.heap.size w wu12) := HB11.out.trans (b12.mono HB11.out.size)
  clear cW b12
  go_wp2_with fail
  exact bodyPost_ret (v := .bool true) (by simp [results, Tryz.results9, go_sem]) rfl ⟨rfl, HB12.out⟩
end Go.Proofs.YtnldkpckojhbhaaGreat.V
