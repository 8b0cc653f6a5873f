/-
  ApartBytes: rows of bytes that lie apart, marked, then grown.
-/
import Derived.Test.YtghcmlkgpedkkaaRows
import Derived.Test.YtghcmlkgpedkkaaLate
import Derived.WalkKit
import Derived.WalkSpells
import Derived.WalkLawsBesides
import Derived.Laws.BytesArg
import Derived.ProofKit
import Derived.ArgAppend
import Derived.Deep.QuietTactic
import Derived.Deep.RegionWith
import Derived.BigQuiet
import Derived.Deep.Cut
namespace Go.Proofs.Ytghcmlkgpedkkaa.Apart
open Go.RowKit

/-- the mark of byte i of list k -/
def mrk (k i : Nat) : Int := IntKind.u64.wrap ((1000003 * ((k : Int) + 7) + (i : Int)) * 11400714819323198485) / 72057594037927936 % 256
theorem mark_at (k i : Nat) (w : World) (hk : k ≤ 1000) (hi : i ≤ 1000000) :
    Calls Try.prog 46 #[.int .i64 k, .int .i64 i] w fun e w' => e = .returned (.int .u8 (mrk k i)) ∧ w' = w := by
  go_enter Try.func46, Try.ntmps46
  go_wp2
  go_ret
  exact ⟨rfl, rfl⟩

/-! ### blocks -/
def Box (w : World) (g : Nat) (cs : Array Value) (t : TypeId) : Prop := w.heap[g]? = some (.cells cs t (0, 0))
theorem Box.cell {w : World} {g : Nat} {cs : Array Value} {t : TypeId} (h : Box w g cs t) (j : Nat) : w.cell? ⟨g, j, none⟩ = cs[j]? := cell_of_row w g j cs t (0, 0) h
theorem Box.frozen {w : World} {g : Nat} {cs : Array Value} {t : TypeId} (h : Box w g cs t) (j : Nat) : w.frozen? ⟨g, j, none⟩ = false := frozen_of_row w g j cs t h
theorem Box.lt {w : World} {g : Nat} {cs : Array Value} {t : TypeId} (h : Box w g cs t) : g < w.heap.size := (Array.getElem?_eq_some_iff.1 h).1
theorem Box.new (w : World) (cs : Array Value) (t : TypeId) : Box (w.alloc (.cells cs t)) w.heap.size cs t := heap_alloc_new w _
theorem Box.store {w : World} {g : Nat} {cs : Array Value} {t : TypeId} (h : Box w g cs t) (j : Nat) (v : Value) : Box (w.setCell ⟨g, j, none⟩ v) g (cs.setIfInBounds j v) t := heap_setCell_same w g j cs t v h
theorem Box.ne {w : World} {g g' : Nat} {cs cs' : Array Value} {t t' : TypeId} (h : Box w g cs t) (h' : Box w g' cs' t') (ht : t ≠ t') : g ≠ g' := by
  intro e
  subst e
  unfold Box at h h'
  rw [h] at h'
  simp at h'
  exact ht h'.2
theorem grown_store (w : World) (g j : Nat) (u : Value) : w.grownBy (w.setCell ⟨g, j, none⟩ u) (some g) :=
  ⟨rfl, rfl, rfl, by simp, fun k _ hk => heap_setCell_other w ⟨g, j, none⟩ k u (fun e => hk (by simp [e]))⟩

/-- the first m bytes of block b, of cc in all, are the marks of list i -/
def Marked (w : World) (i b cc m : Nat) : Prop := ∃ cur : Array Value, Box w b cur 5 ∧ cur.size = cc ∧ m ≤ cc ∧ ∀ j, j < m → cur[j]? = some (.int .u8 (mrk i j))
theorem Marked.lt {w : World} {i b cc m : Nat} (h : Marked w i b cc m) : b < w.heap.size := by obtain ⟨_, h, _⟩ := h; exact h.lt
theorem Marked.kept {w w' : World} {i b cc m : Nat} (h : Marked w i b cc m) (hb : w'.heap[b]? = w.heap[b]?) : Marked w' i b cc m := by
  obtain ⟨cur, h, r⟩ := h
  exact ⟨cur, hb.trans h, r⟩
theorem Marked.less {w : World} {i b cc m m' : Nat} (h : Marked w i b cc m) (hm : m' ≤ m) : Marked w i b cc m' := by
  obtain ⟨cur, h, h1, h2, h3⟩ := h
  exact ⟨cur, h, h1, by omega, fun j hj => h3 j (by omega)⟩
theorem Marked.cell {w : World} {i b cc m : Nat} (h : Marked w i b cc m) (j : Nat) (hj : j < m) : w.cell? ⟨b, j, none⟩ = some (.int .u8 (mrk i j)) := by
  obtain ⟨cur, h, _, _, h3⟩ := h
  rw [h.cell j, h3 j hj]
theorem Marked.has {w : World} {i b cc m : Nat} (h : Marked w i b cc m) (j : Nat) (hj : j < cc) : ∃ v, w.cell? ⟨b, j, none⟩ = some v := by
  obtain ⟨cur, h, h1, _⟩ := h
  exact ⟨cur[j]'(by omega), by rw [h.cell j, Array.getElem?_eq_getElem]⟩
theorem Marked.frozen {w : World} {i b cc m : Nat} (h : Marked w i b cc m) (j : Nat) : w.frozen? ⟨b, j, none⟩ = false := by
  obtain ⟨cur, h, _⟩ := h
  exact h.frozen j
theorem Marked.store {w : World} {i b cc m : Nat} (h : Marked w i b cc m) (hm : m < cc) : Marked (w.setCell ⟨b, m, none⟩ (.int .u8 (mrk i m))) i b cc (m + 1) := by
  obtain ⟨cur, h, h1, h2, h3⟩ := h
  refine ⟨_, h.store m _, by rw [Array.size_setIfInBounds]; exact h1, by omega, fun j hj => ?_⟩
  rw [Array.getElem?_setIfInBounds]
  by_cases e : m = j
  · subst e
    rw [if_pos rfl, if_pos (by omega)]
  · rw [if_neg e]
    exact h3 j (by omega)
theorem Marked.ne {w : World} {i b cc m g : Nat} {cs : Array Value} (h : Marked w i b cc m) (hb : Box w g cs 31) : g ≠ b := by
  obtain ⟨cur, h, _⟩ := h
  exact hb.ne h (by decide)

theorem info5 : (Try.prog.info? 5).map (fun i => (i.zero, i.size, i.bytes)) = some (some (.int .u8 0), 1, 1) := by kernel_rfl
theorem infoB : (Try.prog.info? 31).map (fun i => (i.zero, i.size, i.bytes)) = some (some (.slice none 0 0), 1, 24) := by kernel_rfl

/-- one mark more: in place, or all of them anew -/
theorem Marked.append {w : World} {i b cc m : Nat} (h : Marked w i b cc m) (hcc : cc ≤ maxLen) (ty : TypeId) (ga : Nat) (hx : w.cell? ⟨ga, 0, none⟩ = some (.int .u8 (mrk i m))) (hm : m ≤ 1000000) :
    ∃ b' cc' w', (Builtin.append_ #[31, 31] ty #[.slice (some ⟨b, 0, none⟩) m cc, .slice (some ⟨ga, 0, none⟩) 1 1]).run Try.prog w = .ok (.slice (some ⟨b', 0, none⟩) (m + 1) cc') w' ∧ Marked w' i b' cc' (m + 1) ∧ cc' ≤ maxLen ∧
      ((b' = b ∧ cc' = cc ∧ w.grownBy w' (some b)) ∨ (w.heap.size ≤ b' ∧ Below w.heap.size w w')) := by
  obtain ⟨i0, hi, hz0, hz1, hz2⟩ := info_parts info5
  have h0 := h
  obtain ⟨cur, hb, h1, h2, h3⟩ := h
  have hnews : ∀ j u, ([.int .u8 (mrk i m)] : List Value)[j]? = some u → w.cell? ((⟨ga, 0, none⟩ : Addr).add j) = some u := by
    intro j u hj
    match j, hj with
    | 0, hj => simpa [Addr.add] using hx.trans hj
  by_cases hroom : m + 1 ≤ cc
  · have hr := run_append_room_cells (P := Try.prog) w 31 ty 5 i0 Try.underlying31 hi b 0 m cc ⟨ga, 0, none⟩ 1 1 [.int .u8 (mrk i m)] (by rw [hz1]; rfl) hnews (by simp [Value.oneCell']) hroom
      (fun j hj => by
        have : j = 0 := by simp at hj; omega
        subst this
        obtain ⟨v, hv⟩ := h0.has m (by omega)
        rw [hz1, Nat.mul_one, Nat.add_zero, Nat.zero_add, hv]
        rfl)
      (fun j hj => hb.frozen _)
    rw [hz1, Nat.mul_one, Nat.zero_add] at hr
    exact ⟨b, cc, _, hr, h0.store (by omega), hcc, .inl ⟨rfl, rfl, grown_store w b m _⟩⟩
  · have hlo : (cur.toList.take m).length = m * 1 := by simp; omega
    obtain ⟨v', w', hr, ho, gr⟩ := run_append_arg_grows (P := Try.prog) w 31 ty 5 i0 (.int .u8 0) 1 1 Try.underlying31 hi hz0 hz1 hz2 rfl (by decide) ⟨b, 0, none⟩ m cc (cur.toList.take m) hlo
      (fun j u hj => by
        rw [List.getElem?_take] at hj
        split at hj
        · rw [Addr.add_lit, Nat.zero_add, hb.cell]
          simpa using hj
        · cases hj) ⟨ga, 0, none⟩ 1 1 [.int .u8 (mrk i m)] rfl hnews (by omega) (by unfold maxLen; omega) (by omega)
    rcases ho.2 with ⟨_, h0⟩ | ⟨g', cap', cur', rfl, hB, hg', hnc, hcm, hcs, ht⟩
    · omega
    refine ⟨g', cap', w', hr, ⟨cur', hg', by omega, by omega, fun j hj => ?_⟩, hcm, .inr ⟨hB, ⟨gr.os, gr.tape, gr.output, gr.size, fun q hq => gr.block q hq (by simp)⟩⟩⟩
    have e : cur'[j]? = (cur.toList.take m ++ [.int .u8 (mrk i m)])[j]? := by
      rw [← ht, List.getElem?_take, if_pos (by omega)]
      simp
    rw [e]
    have ll : (cur.toList.take m).length = m := by omega
    by_cases hjm : j < m
    · rw [List.getElem?_append_left (by omega), List.getElem?_take, if_pos hjm]
      have := h3 j hjm
      simpa using this
    · have hje : j = m := by omega
      subst hje
      rw [List.getElem?_append_right (by omega), ll]
      simp

/-! ### what is kept -/
/-- the list of lists: list i lies in block g i -/
def LS (w : World) (N gl : Nat) (g n c : Nat → Nat) : Prop := ∃ LA : Array Value, Box w gl LA 31 ∧ ∀ i, i < N → LA[i]? = some (.slice (some ⟨g i, 0, none⟩) (n i) (c i))
theorem LS.kept {w w' : World} {N gl : Nat} {g n c : Nat → Nat} (h : LS w N gl g n c) (hb : w'.heap[gl]? = w.heap[gl]?) : LS w' N gl g n c := by
  obtain ⟨LA, h, r⟩ := h
  exact ⟨LA, hb.trans h, r⟩
theorem LS.lt {w : World} {N gl : Nat} {g n c : Nat → Nat} (h : LS w N gl g n c) : gl < w.heap.size := by obtain ⟨_, h, _⟩ := h; exact h.lt
theorem LS.cell {w : World} {N gl : Nat} {g n c : Nat → Nat} (h : LS w N gl g n c) (i : Nat) (hi : i < N) : w.cell? ⟨gl, i, none⟩ = some (.slice (some ⟨g i, 0, none⟩) (n i) (c i)) := by
  obtain ⟨LA, h, r⟩ := h
  rw [h.cell i, r i hi]
/-- all but the lists' blocks stays -/
structure But (N : Nat) (g : Nat → Nat) (w w' : World) : Prop where
  os : w'.os = w.os
  tape : w'.tape = w.tape
  output : w'.output = w.output
  size : w.heap.size ≤ w'.heap.size
  block : ∀ k, k < w.heap.size → (∀ q, q < N → k ≠ g q) → w'.heap[k]? = w.heap[k]?
theorem But.refl (N : Nat) (g : Nat → Nat) (w : World) : But N g w w := ⟨rfl, rfl, rfl, Nat.le_refl _, fun _ _ _ => rfl⟩
theorem But.grown {N : Nat} {g : Nat → Nat} {a w w' : World} {row : Nat} (h : But N g a w) (gr : w.grownBy w' (some row)) (hr : (∃ q, q < N ∧ row = g q) ∨ a.heap.size ≤ row) : But N g a w' :=
  ⟨gr.os.trans h.os, gr.tape.trans h.tape, gr.output.trans h.output, Nat.le_trans h.size gr.size, fun k hk hq => (gr.block k (Nat.lt_of_lt_of_le hk h.size) (fun e => by
    have e' : k = row := by simpa using e
    rcases hr with ⟨q, hqN, e2⟩ | h2
    · exact hq q hqN (e'.trans e2)
    · omega)).trans (h.block k hk hq)⟩
theorem But.below {N : Nat} {g : Nat → Nat} {a w w' : World} (h : But N g a w) (b : Below w.heap.size w w') : But N g a w' :=
  ⟨b.os.trans h.os, b.tape.trans h.tape, b.output.trans h.output, Nat.le_trans h.size b.size, fun k hk hq => (b.block k (Nat.lt_of_lt_of_le hk h.size)).trans (h.block k hk hq)⟩

/-- while the lists are marked: k of them are, and j bytes of the next -/
structure P1 (w0 w : World) (N gl gg : Nat) (g n c : Nat → Nat) (k j : Nat) : Prop where
  ls : LS w N gl g n c
  gs : ∃ cs : Array Value, Box w gg cs 31 ∧ cs.size = N
  gg0 : w0.heap.size ≤ gg
  gl0 : gl < w0.heap.size
  row : ∀ i, i < N → Marked w i (g i) (c i) (if i < k then n i else if i = k then j else 0)
  but : But N g w0 w
theorem P1.below {w0 w w' : World} {N gl gg : Nat} {g n c : Nat → Nat} {k j : Nat} (h : P1 w0 w N gl gg g n c k j) (b : Below w.heap.size w w') : P1 w0 w' N gl gg g n c k j where
  ls := h.ls.kept (b.block _ h.ls.lt)
  gs := by
    obtain ⟨cs, hb, hs⟩ := h.gs
    exact ⟨cs, (b.block _ hb.lt).trans hb, hs⟩
  gg0 := h.gg0
  gl0 := h.gl0
  row := fun i hi => (h.row i hi).kept (b.block _ (h.row i hi).lt)
  but := h.but.below b
theorem P1.next {w0 w : World} {N gl gg : Nat} {g n c : Nat → Nat} {k : Nat} (h : P1 w0 w N gl gg g n c k (n k)) : P1 w0 w N gl gg g n c (k + 1) 0 where
  ls := h.ls
  gs := h.gs
  gg0 := h.gg0
  gl0 := h.gl0
  row := fun i hi => by
    have := h.row i hi
    by_cases e : i < k
    · rw [if_pos (by omega)]
      rw [if_pos e] at this
      exact this
    · rw [if_neg e] at this
      by_cases e2 : i = k
      · subst e2
        rw [if_pos rfl] at this
        rw [if_pos (by omega)]
        exact this
      · rw [if_neg e2] at this
        rw [if_neg (by omega)]
        split
        · exact this
        · exact this
  but := h.but
theorem P1.here {w0 w : World} {N gl gg : Nat} {g n c : Nat → Nat} {k j : Nat} (h : P1 w0 w N gl gg g n c k j) (hk : k < N) : Marked w k (g k) (c k) j := by
  have := h.row k hk
  rw [if_neg (Nat.lt_irrefl _), if_pos rfl] at this
  exact this
theorem P1.step {w0 w : World} {N gl gg : Nat} {g n c : Nat → Nat} {k j : Nat} (h : P1 w0 w N gl gg g n c k j) (hk : k < N) (hj : j < c k) (hap : ∀ i, i < N → ∀ q, q < N → i ≠ q → g i ≠ g q) : P1 w0 (w.setCell ⟨g k, j, none⟩ (.int .u8 (mrk k j))) N gl gg g n c k (j + 1) where
  ls := by
    obtain ⟨LA, hb, r⟩ := h.ls
    exact ⟨LA, (heap_setCell_other w ⟨g k, j, none⟩ gl _ ((h.here hk).ne hb)).trans hb, r⟩
  gs := by
    obtain ⟨cs, hb, hs⟩ := h.gs
    exact ⟨cs, (heap_setCell_other w ⟨g k, j, none⟩ gg _ ((h.here hk).ne hb)).trans hb, hs⟩
  gg0 := h.gg0
  gl0 := h.gl0
  row := fun i hi => by
    by_cases e : i = k
    · subst e
      rw [if_neg (Nat.lt_irrefl _), if_pos rfl]
      exact (h.here hk).store hj
    · have := (h.row i hi).kept (heap_setCell_other w ⟨g k, j, none⟩ (g i) (.int .u8 (mrk k j)) (hap i hi k hk e))
      rw [if_neg e] at this ⊢
      exact this
  but := h.but.grown (grown_store w (g k) j _) (.inl ⟨k, hk, rfl⟩)

/-- while they are grown: k of them are, in blocks b -/
structure P2 (w0 w : World) (N gl gg : Nat) (g n c : Nat → Nat) (k : Nat) (b cb : Nat → Nat) : Prop where
  ls : LS w N gl g n c
  gs : ∃ cs : Array Value, Box w gg cs 31 ∧ cs.size = N ∧ ∀ i, i < k → cs[i]? = some (.slice (some ⟨b i, 0, none⟩) (n i + 40) (cb i))
  gg0 : w0.heap.size ≤ gg
  gl0 : gl < w0.heap.size
  row : ∀ i, i < N → Marked w i (g i) (c i) (n i)
  big : ∀ i, i < k → Marked w i (b i) (cb i) (n i + 40)
  off : ∀ i, i < k → ∀ q, q < N → q ≠ i → b i ≠ g q
  but : But N g w0 w
theorem P1.grow {w0 w : World} {N gl gg : Nat} {g n c : Nat → Nat} (h : P1 w0 w N gl gg g n c N 0) (b cb : Nat → Nat) : P2 w0 w N gl gg g n c 0 b cb where
  ls := h.ls
  gs := by
    obtain ⟨cs, hb, hs⟩ := h.gs
    exact ⟨cs, hb, hs, fun i hi => by omega⟩
  gg0 := h.gg0
  gl0 := h.gl0
  row := fun i hi => by
    have := h.row i hi
    rw [if_pos hi] at this
    exact this
  big := fun i hi => by omega
  off := fun i hi => by omega
  but := h.but
theorem P2.below {w0 w w' : World} {N gl gg : Nat} {g n c : Nat → Nat} {k : Nat} {b cb : Nat → Nat} (h : P2 w0 w N gl gg g n c k b cb) (bl : Below w.heap.size w w') : P2 w0 w' N gl gg g n c k b cb where
  ls := h.ls.kept (bl.block _ h.ls.lt)
  gs := by
    obtain ⟨cs, hb, hs⟩ := h.gs
    exact ⟨cs, (bl.block _ hb.lt).trans hb, hs⟩
  gg0 := h.gg0
  gl0 := h.gl0
  row := fun i hi => (h.row i hi).kept (bl.block _ (h.row i hi).lt)
  big := fun i hi => (h.big i hi).kept (bl.block _ (h.big i hi).lt)
  off := h.off
  but := h.but.below bl

/-- .. and of list k so many, in block bb -/
structure P3 (w0 w : World) (N gl gg : Nat) (g n c : Nat → Nat) (k : Nat) (b cb : Nat → Nat) (bb cc m : Nat) : Prop where
  p2 : P2 w0 w N gl gg g n c k b cb
  cur : Marked w k bb cc m
  same : bb = g k → cc = c k
  place : bb = g k ∨ w0.heap.size ≤ bb
  off : ∀ q, q < N → q ≠ k → bb ≠ g q
  old : ∀ i, i < k → b i ≠ bb
  lim : cc ≤ maxLen
theorem P3.below {w0 w w' : World} {N gl gg : Nat} {g n c : Nat → Nat} {k : Nat} {b cb : Nat → Nat} {bb cc m : Nat} (h : P3 w0 w N gl gg g n c k b cb bb cc m) (bl : Below w.heap.size w w') : P3 w0 w' N gl gg g n c k b cb bb cc m :=
  ⟨h.p2.below bl, h.cur.kept (bl.block _ h.cur.lt), h.same, h.place, h.off, h.old, h.lim⟩
theorem P2.start {w0 w : World} {N gl gg : Nat} {g n c : Nat → Nat} {k : Nat} {b cb : Nat → Nat} (h : P2 w0 w N gl gg g n c k b cb) (hk : k < N) (hc : c k ≤ maxLen) (hap : ∀ i, i < N → ∀ q, q < N → i ≠ q → g i ≠ g q) : P3 w0 w N gl gg g n c k b cb (g k) (c k) (n k) :=
  ⟨h, h.row k hk, fun _ => rfl, .inl rfl, fun q hq hqk => hap k hk q hq (fun e => hqk e.symm), fun i hi => h.off i hi k hk (by omega), hc⟩
/-- one more -/
theorem P3.grown {w0 w w' : World} {N gl gg : Nat} {g n c : Nat → Nat} {k : Nat} {b cb : Nat → Nat} {bb cc m : Nat} (h : P3 w0 w N gl gg g n c k b cb bb cc m) (hk : k < N) (hm : n k ≤ m) (b' cc' : Nat) (mrk' : Marked w' k b' cc' (m + 1)) (hl : cc' ≤ maxLen)
    (hw : (b' = bb ∧ cc' = cc ∧ w.grownBy w' (some bb)) ∨ (w.heap.size ≤ b' ∧ Below w.heap.size w w')) : P3 w0 w' N gl gg g n c k b cb b' cc' (m + 1) := by
  rcases hw with ⟨rfl, rfl, gr⟩ | ⟨hb, bl⟩
  · have kp : ∀ q, q < w.heap.size → q ≠ b' → w'.heap[q]? = w.heap[q]? := fun q hq hn => gr.block q hq (fun e => hn (by simpa using e))
    refine ⟨⟨?_, ?_, h.p2.gg0, h.p2.gl0, fun i hi => ?_, fun i hi => ?_, h.p2.off, ?_⟩, mrk', h.same, h.place, h.off, h.old, hl⟩
    · obtain ⟨LA, hb, r⟩ := h.p2.ls
      exact ⟨LA, (kp gl hb.lt (h.cur.ne hb)).trans hb, r⟩
    · obtain ⟨cs, hb, hs⟩ := h.p2.gs
      exact ⟨cs, (kp gg hb.lt (h.cur.ne hb)).trans hb, hs⟩
    · by_cases e : i = k
      · subst e
        by_cases e2 : b' = g i
        · have := mrk'.less (show n i ≤ m + 1 by omega)
          rw [h.same e2, e2] at this
          exact this
        · exact (h.p2.row i hi).kept (kp _ (h.p2.row i hi).lt (fun e => e2 e.symm))
      · exact (h.p2.row i hi).kept (kp _ (h.p2.row i hi).lt (fun e2 => h.off i hi e e2.symm))
    · exact (h.p2.big i hi).kept (kp _ (h.p2.big i hi).lt (h.old i hi))
    · refine h.p2.but.grown gr ?_
      rcases h.place with e | e
      · exact .inl ⟨k, hk, e⟩
      · exact .inr e
  · have hp := h.p2.below bl
    have z := h.p2.but.size
    exact ⟨hp, mrk', fun e => by have := (h.p2.row k hk).lt; omega, .inr (by omega), fun q hq hqk e => by have := (h.p2.row q hq).lt; omega, fun i hi e => by have := (h.p2.big i hi).lt; omega, hl⟩
def at_ {α : Type} (f : Nat → α) (k : Nat) (x : α) : Nat → α := fun i => if i = k then x else f i
theorem at_same {α : Type} (f : Nat → α) (k : Nat) (x : α) : at_ f k x k = x := if_pos rfl
theorem at_other {α : Type} (f : Nat → α) (k i : Nat) (x : α) (h : i ≠ k) : at_ f k x i = f i := if_neg h
/-- it is put into its place -/
theorem P3.put {w0 w : World} {N gl gg : Nat} {g n c : Nat → Nat} {k : Nat} {b cb : Nat → Nat} {bb cc : Nat} (h : P3 w0 w N gl gg g n c k b cb bb cc (n k + 40)) (hk : k < N) :
    P2 w0 (w.setCell ⟨gg, k, none⟩ (.slice (some ⟨bb, 0, none⟩) (n k + 40) cc)) N gl gg g n c (k + 1) (at_ b k bb) (at_ cb k cc) := by
  obtain ⟨cs, hb, hs, he⟩ := h.p2.gs
  have kp : ∀ q, q ≠ gg → (w.setCell ⟨gg, k, none⟩ (.slice (some ⟨bb, 0, none⟩) (n k + 40) cc)).heap[q]? = w.heap[q]? := fun q hn => heap_setCell_other w ⟨gg, k, none⟩ q _ hn
  have hgl : gl ≠ gg := by
    have := h.p2.gl0
    have := h.p2.gg0
    omega
  refine ⟨h.p2.ls.kept (kp gl hgl), ⟨_, hb.store k _, by rw [Array.size_setIfInBounds]; exact hs, fun i hi => ?_⟩, h.p2.gg0, h.p2.gl0, fun i hi => (h.p2.row i hi).kept (kp _ (fun e => (h.p2.row i hi).ne hb e.symm)), fun i hi => ?_, fun i hi q hq hqi => ?_, h.p2.but.grown (grown_store w gg k _) (.inr h.p2.gg0)⟩
  · rw [Array.getElem?_setIfInBounds]
    by_cases e : i = k
    · subst e
      rw [if_pos rfl, if_pos (by omega), at_same, at_same]
    · rw [if_neg (fun e2 => e e2.symm), at_other _ _ _ _ e, at_other _ _ _ _ e]
      exact he i (by omega)
  · by_cases e : i = k
    · subst e
      rw [at_same, at_same]
      exact h.cur.kept (kp _ (fun e => h.cur.ne hb e.symm))
    · rw [at_other _ _ _ _ e, at_other _ _ _ _ e]
      exact (h.p2.big i (by omega)).kept (kp _ (fun e2 => (h.p2.big i (by omega)).ne hb e2.symm))
  · by_cases e : i = k
    · subst e
      rw [at_same]
      exact h.off q hq hqi
    · rw [at_other _ _ _ _ e]
      exact h.p2.off i (by omega) q hq hqi
theorem P2.gsCell {w0 w : World} {N gl gg : Nat} {g n c : Nat → Nat} {k : Nat} {b cb : Nat → Nat} (h : P2 w0 w N gl gg g n c k b cb) (i : Nat) (hi : i < k) : w.cell? ⟨gg, i, none⟩ = some (.slice (some ⟨b i, 0, none⟩) (n i + 40) (cb i)) := by
  obtain ⟨cs, hb, _, he⟩ := h.gs
  rw [hb.cell i, he i hi]
end Go.Proofs.Ytghcmlkgpedkkaa.Apart
