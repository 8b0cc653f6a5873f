/-
  RcApart, RcApartWalk, HRwd, HSpares: put together.
-/
import Derived.Test.YtdkaacjeogifdaaG7
import Derived.Test.YtdkaacjeogifdaaRows
import Derived.WalkKit
import Derived.WalkSpells
import Derived.WalkLawsBesides
import Derived.Laws.BytesArg
import Derived.ProofKit
import Derived.ArgAppend
import Derived.Deep.QuietTactic
import Derived.Deep.RegionWith
import Derived.BigQuiet
import Derived.Deep.Cut
/-
  ApartBytes: rows of bytes that lie apart, marked, then grown.
-/
namespace Go.Proofs.Ytdkaacjeogifdaa.Rc.Apart
open Go.RowKit

/-- the mark of byte i of list k -/
def mrk (k i : Nat) : Int := IntKind.u64.wrap ((1000003 * ((k : Int) + 7) + (i : Int)) * 11400714819323198485) / 72057594037927936 % 256
theorem mark_at (k i : Nat) (w : World) (hk : k ≤ 1000) (hi : i ≤ 1000000) :
    Calls Try.prog 49 #[.int .i64 k, .int .i64 i] w fun e w' => e = .returned (.int .u8 (mrk k i)) ∧ w' = w := by
  go_enter Try.func49, Try.ntmps49
  go_wp2
  go_ret
  exact ⟨rfl, rfl⟩

/-! ### blocks -/
def Box (w : World) (g : Nat) (cs : Array Value) (t : TypeId) : Prop := w.heap[g]? = some (.cells cs t (0, 0))
theorem Box.cell {w : World} {g : Nat} {cs : Array Value} {t : TypeId} (h : Box w g cs t) (j : Nat) : w.cell? ⟨g, j, none⟩ = cs[j]? := cell_of_row w g j cs t (0, 0) h
theorem Box.frozen {w : World} {g : Nat} {cs : Array Value} {t : TypeId} (h : Box w g cs t) (j : Nat) : w.frozen? ⟨g, j, none⟩ = false := frozen_of_row w g j cs t h
theorem Box.lt {w : World} {g : Nat} {cs : Array Value} {t : TypeId} (h : Box w g cs t) : g < w.heap.size := (Array.getElem?_eq_some_iff.1 h).1
theorem Box.new (w : World) (cs : Array Value) (t : TypeId) : Box (w.alloc (.cells cs t)) w.heap.size cs t := heap_alloc_new w _
theorem Box.store {w : World} {g : Nat} {cs : Array Value} {t : TypeId} (h : Box w g cs t) (j : Nat) (v : Value) : Box (w.setCell ⟨g, j, none⟩ v) g (cs.setIfInBounds j v) t := heap_setCell_same w g j cs t v h
theorem Box.ne {w : World} {g g' : Nat} {cs cs' : Array Value} {t t' : TypeId} (h : Box w g cs t) (h' : Box w g' cs' t') (ht : t ≠ t') : g ≠ g' := by
  intro e
  subst e
  unfold Box at h h'
  rw [h] at h'
  simp at h'
  exact ht h'.2
theorem grown_store (w : World) (g j : Nat) (u : Value) : w.grownBy (w.setCell ⟨g, j, none⟩ u) (some g) :=
  ⟨rfl, rfl, rfl, by simp, fun k _ hk => heap_setCell_other w ⟨g, j, none⟩ k u (fun e => hk (by simp [e]))⟩

/-- the first m bytes of block b, of cc in all, are the marks of list i -/
def Marked (w : World) (i b cc m : Nat) : Prop := ∃ cur : Array Value, Box w b cur 5 ∧ cur.size = cc ∧ m ≤ cc ∧ ∀ j, j < m → cur[j]? = some (.int .u8 (mrk i j))
theorem Marked.lt {w : World} {i b cc m : Nat} (h : Marked w i b cc m) : b < w.heap.size := by obtain ⟨_, h, _⟩ := h; exact h.lt
theorem Marked.kept {w w' : World} {i b cc m : Nat} (h : Marked w i b cc m) (hb : w'.heap[b]? = w.heap[b]?) : Marked w' i b cc m := by
  obtain ⟨cur, h, r⟩ := h
  exact ⟨cur, hb.trans h, r⟩
theorem Marked.less {w : World} {i b cc m m' : Nat} (h : Marked w i b cc m) (hm : m' ≤ m) : Marked w i b cc m' := by
  obtain ⟨cur, h, h1, h2, h3⟩ := h
  exact ⟨cur, h, h1, by omega, fun j hj => h3 j (by omega)⟩
theorem Marked.cell {w : World} {i b cc m : Nat} (h : Marked w i b cc m) (j : Nat) (hj : j < m) : w.cell? ⟨b, j, none⟩ = some (.int .u8 (mrk i j)) := by
  obtain ⟨cur, h, _, _, h3⟩ := h
  rw [h.cell j, h3 j hj]
theorem Marked.has {w : World} {i b cc m : Nat} (h : Marked w i b cc m) (j : Nat) (hj : j < cc) : ∃ v, w.cell? ⟨b, j, none⟩ = some v := by
  obtain ⟨cur, h, h1, _⟩ := h
  exact ⟨cur[j]'(by omega), by rw [h.cell j, Array.getElem?_eq_getElem]⟩
theorem Marked.frozen {w : World} {i b cc m : Nat} (h : Marked w i b cc m) (j : Nat) : w.frozen? ⟨b, j, none⟩ = false := by
  obtain ⟨cur, h, _⟩ := h
  exact h.frozen j
theorem Marked.store {w : World} {i b cc m : Nat} (h : Marked w i b cc m) (hm : m < cc) : Marked (w.setCell ⟨b, m, none⟩ (.int .u8 (mrk i m))) i b cc (m + 1) := by
  obtain ⟨cur, h, h1, h2, h3⟩ := h
  refine ⟨_, h.store m _, by rw [Array.size_setIfInBounds]; exact h1, by omega, fun j hj => ?_⟩
  rw [Array.getElem?_setIfInBounds]
  by_cases e : m = j
  · subst e
    rw [if_pos rfl, if_pos (by omega)]
  · rw [if_neg e]
    exact h3 j (by omega)
theorem Marked.ne {w : World} {i b cc m g : Nat} {cs : Array Value} (h : Marked w i b cc m) (hb : Box w g cs 26) : g ≠ b := by
  obtain ⟨cur, h, _⟩ := h
  exact hb.ne h (by decide)

theorem info5 : (Try.prog.info? 5).map (fun i => (i.zero, i.size, i.bytes)) = some (some (.int .u8 0), 1, 1) := by kernel_rfl
theorem infoB : (Try.prog.info? 26).map (fun i => (i.zero, i.size, i.bytes)) = some (some (.slice none 0 0), 1, 24) := by kernel_rfl

/-- one mark more: in place, or all of them anew -/
theorem Marked.append {w : World} {i b cc m : Nat} (h : Marked w i b cc m) (hcc : cc ≤ maxLen) (ty : TypeId) (ga : Nat) (hx : w.cell? ⟨ga, 0, none⟩ = some (.int .u8 (mrk i m))) (hm : m ≤ 1000000) :
    ∃ b' cc' w', (Builtin.append_ #[26, 26] ty #[.slice (some ⟨b, 0, none⟩) m cc, .slice (some ⟨ga, 0, none⟩) 1 1]).run Try.prog w = .ok (.slice (some ⟨b', 0, none⟩) (m + 1) cc') w' ∧ Marked w' i b' cc' (m + 1) ∧ cc' ≤ maxLen ∧
      ((b' = b ∧ cc' = cc ∧ w.grownBy w' (some b)) ∨ (w.heap.size ≤ b' ∧ Below w.heap.size w w')) := by
  obtain ⟨i0, hi, hz0, hz1, hz2⟩ := info_parts info5
  have h0 := h
  obtain ⟨cur, hb, h1, h2, h3⟩ := h
  have hnews : ∀ j u, ([.int .u8 (mrk i m)] : List Value)[j]? = some u → w.cell? ((⟨ga, 0, none⟩ : Addr).add j) = some u := by
    intro j u hj
    match j, hj with
    | 0, hj => simpa [Addr.add] using hx.trans hj
  by_cases hroom : m + 1 ≤ cc
  · have hr := run_append_room_cells (P := Try.prog) w 26 ty 5 i0 Try.underlying26 hi b 0 m cc ⟨ga, 0, none⟩ 1 1 [.int .u8 (mrk i m)] (by rw [hz1]; rfl) hnews (by simp [Value.oneCell']) hroom
      (fun j hj => by
        have : j = 0 := by simp at hj; omega
        subst this
        obtain ⟨v, hv⟩ := h0.has m (by omega)
        rw [hz1, Nat.mul_one, Nat.add_zero, Nat.zero_add, hv]
        rfl)
      (fun j hj => hb.frozen _)
    rw [hz1, Nat.mul_one, Nat.zero_add] at hr
    exact ⟨b, cc, _, hr, h0.store (by omega), hcc, .inl ⟨rfl, rfl, grown_store w b m _⟩⟩
  · have hlo : (cur.toList.take m).length = m * 1 := by simp; omega
    obtain ⟨v', w', hr, ho, gr⟩ := run_append_arg_grows (P := Try.prog) w 26 ty 5 i0 (.int .u8 0) 1 1 Try.underlying26 hi hz0 hz1 hz2 rfl (by decide) ⟨b, 0, none⟩ m cc (cur.toList.take m) hlo
      (fun j u hj => by
        rw [List.getElem?_take] at hj
        split at hj
        · rw [Addr.add_lit, Nat.zero_add, hb.cell]
          simpa using hj
        · cases hj) ⟨ga, 0, none⟩ 1 1 [.int .u8 (mrk i m)] rfl hnews (by omega) (by unfold maxLen; omega) (by omega)
    rcases ho.2 with ⟨_, h0⟩ | ⟨g', cap', cur', rfl, hB, hg', hnc, hcm, hcs, ht⟩
    · omega
    refine ⟨g', cap', w', hr, ⟨cur', hg', by omega, by omega, fun j hj => ?_⟩, hcm, .inr ⟨hB, ⟨gr.os, gr.tape, gr.output, gr.size, fun q hq => gr.block q hq (by simp)⟩⟩⟩
    have e : cur'[j]? = (cur.toList.take m ++ [.int .u8 (mrk i m)])[j]? := by
      rw [← ht, List.getElem?_take, if_pos (by omega)]
      simp
    rw [e]
    have ll : (cur.toList.take m).length = m := by omega
    by_cases hjm : j < m
    · rw [List.getElem?_append_left (by omega), List.getElem?_take, if_pos hjm]
      have := h3 j hjm
      simpa using this
    · have hje : j = m := by omega
      subst hje
      rw [List.getElem?_append_right (by omega), ll]
      simp

/-! ### what is kept -/
/-- the list of lists: list i lies in block g i -/
def LS (w : World) (N gl : Nat) (g n c : Nat → Nat) : Prop := ∃ LA : Array Value, Box w gl LA 26 ∧ ∀ i, i < N → LA[i]? = some (.slice (some ⟨g i, 0, none⟩) (n i) (c i))
theorem LS.kept {w w' : World} {N gl : Nat} {g n c : Nat → Nat} (h : LS w N gl g n c) (hb : w'.heap[gl]? = w.heap[gl]?) : LS w' N gl g n c := by
  obtain ⟨LA, h, r⟩ := h
  exact ⟨LA, hb.trans h, r⟩
theorem LS.lt {w : World} {N gl : Nat} {g n c : Nat → Nat} (h : LS w N gl g n c) : gl < w.heap.size := by obtain ⟨_, h, _⟩ := h; exact h.lt
theorem LS.cell {w : World} {N gl : Nat} {g n c : Nat → Nat} (h : LS w N gl g n c) (i : Nat) (hi : i < N) : w.cell? ⟨gl, i, none⟩ = some (.slice (some ⟨g i, 0, none⟩) (n i) (c i)) := by
  obtain ⟨LA, h, r⟩ := h
  rw [h.cell i, r i hi]
/-- all but the lists' blocks stays -/
structure But (N : Nat) (g : Nat → Nat) (w w' : World) : Prop where
  os : w'.os = w.os
  tape : w'.tape = w.tape
  output : w'.output = w.output
  size : w.heap.size ≤ w'.heap.size
  block : ∀ k, k < w.heap.size → (∀ q, q < N → k ≠ g q) → w'.heap[k]? = w.heap[k]?
theorem But.refl (N : Nat) (g : Nat → Nat) (w : World) : But N g w w := ⟨rfl, rfl, rfl, Nat.le_refl _, fun _ _ _ => rfl⟩
theorem But.grown {N : Nat} {g : Nat → Nat} {a w w' : World} {row : Nat} (h : But N g a w) (gr : w.grownBy w' (some row)) (hr : (∃ q, q < N ∧ row = g q) ∨ a.heap.size ≤ row) : But N g a w' :=
  ⟨gr.os.trans h.os, gr.tape.trans h.tape, gr.output.trans h.output, Nat.le_trans h.size gr.size, fun k hk hq => (gr.block k (Nat.lt_of_lt_of_le hk h.size) (fun e => by
    have e' : k = row := by simpa using e
    rcases hr with ⟨q, hqN, e2⟩ | h2
    · exact hq q hqN (e'.trans e2)
    · omega)).trans (h.block k hk hq)⟩
theorem But.below {N : Nat} {g : Nat → Nat} {a w w' : World} (h : But N g a w) (b : Below w.heap.size w w') : But N g a w' :=
  ⟨b.os.trans h.os, b.tape.trans h.tape, b.output.trans h.output, Nat.le_trans h.size b.size, fun k hk hq => (b.block k (Nat.lt_of_lt_of_le hk h.size)).trans (h.block k hk hq)⟩

/-- while the lists are marked: k of them are, and j bytes of the next -/
structure P1 (w0 w : World) (N gl gg : Nat) (g n c : Nat → Nat) (k j : Nat) : Prop where
  ls : LS w N gl g n c
  gs : ∃ cs : Array Value, Box w gg cs 26 ∧ cs.size = N
  gg0 : w0.heap.size ≤ gg
  gl0 : gl < w0.heap.size
  row : ∀ i, i < N → Marked w i (g i) (c i) (if i < k then n i else if i = k then j else 0)
  but : But N g w0 w
theorem P1.below {w0 w w' : World} {N gl gg : Nat} {g n c : Nat → Nat} {k j : Nat} (h : P1 w0 w N gl gg g n c k j) (b : Below w.heap.size w w') : P1 w0 w' N gl gg g n c k j where
  ls := h.ls.kept (b.block _ h.ls.lt)
  gs := by
    obtain ⟨cs, hb, hs⟩ := h.gs
    exact ⟨cs, (b.block _ hb.lt).trans hb, hs⟩
  gg0 := h.gg0
  gl0 := h.gl0
  row := fun i hi => (h.row i hi).kept (b.block _ (h.row i hi).lt)
  but := h.but.below b
theorem P1.next {w0 w : World} {N gl gg : Nat} {g n c : Nat → Nat} {k : Nat} (h : P1 w0 w N gl gg g n c k (n k)) : P1 w0 w N gl gg g n c (k + 1) 0 where
  ls := h.ls
  gs := h.gs
  gg0 := h.gg0
  gl0 := h.gl0
  row := fun i hi => by
    have := h.row i hi
    by_cases e : i < k
    · rw [if_pos (by omega)]
      rw [if_pos e] at this
      exact this
    · rw [if_neg e] at this
      by_cases e2 : i = k
      · subst e2
        rw [if_pos rfl] at this
        rw [if_pos (by omega)]
        exact this
      · rw [if_neg e2] at this
        rw [if_neg (by omega)]
        split
        · exact this
        · exact this
  but := h.but
theorem P1.here {w0 w : World} {N gl gg : Nat} {g n c : Nat → Nat} {k j : Nat} (h : P1 w0 w N gl gg g n c k j) (hk : k < N) : Marked w k (g k) (c k) j := by
  have := h.row k hk
  rw [if_neg (Nat.lt_irrefl _), if_pos rfl] at this
  exact this
theorem P1.step {w0 w : World} {N gl gg : Nat} {g n c : Nat → Nat} {k j : Nat} (h : P1 w0 w N gl gg g n c k j) (hk : k < N) (hj : j < c k) (hap : ∀ i, i < N → ∀ q, q < N → i ≠ q → g i ≠ g q) : P1 w0 (w.setCell ⟨g k, j, none⟩ (.int .u8 (mrk k j))) N gl gg g n c k (j + 1) where
  ls := by
    obtain ⟨LA, hb, r⟩ := h.ls
    exact ⟨LA, (heap_setCell_other w ⟨g k, j, none⟩ gl _ ((h.here hk).ne hb)).trans hb, r⟩
  gs := by
    obtain ⟨cs, hb, hs⟩ := h.gs
    exact ⟨cs, (heap_setCell_other w ⟨g k, j, none⟩ gg _ ((h.here hk).ne hb)).trans hb, hs⟩
  gg0 := h.gg0
  gl0 := h.gl0
  row := fun i hi => by
    by_cases e : i = k
    · subst e
      rw [if_neg (Nat.lt_irrefl _), if_pos rfl]
      exact (h.here hk).store hj
    · have := (h.row i hi).kept (heap_setCell_other w ⟨g k, j, none⟩ (g i) (.int .u8 (mrk k j)) (hap i hi k hk e))
      rw [if_neg e] at this ⊢
      exact this
  but := h.but.grown (grown_store w (g k) j _) (.inl ⟨k, hk, rfl⟩)

/-- while they are grown: k of them are, in blocks b -/
structure P2 (w0 w : World) (N gl gg : Nat) (g n c : Nat → Nat) (k : Nat) (b cb : Nat → Nat) : Prop where
  ls : LS w N gl g n c
  gs : ∃ cs : Array Value, Box w gg cs 26 ∧ cs.size = N ∧ ∀ i, i < k → cs[i]? = some (.slice (some ⟨b i, 0, none⟩) (n i + 40) (cb i))
  gg0 : w0.heap.size ≤ gg
  gl0 : gl < w0.heap.size
  row : ∀ i, i < N → Marked w i (g i) (c i) (n i)
  big : ∀ i, i < k → Marked w i (b i) (cb i) (n i + 40)
  off : ∀ i, i < k → ∀ q, q < N → q ≠ i → b i ≠ g q
  but : But N g w0 w
theorem P1.grow {w0 w : World} {N gl gg : Nat} {g n c : Nat → Nat} (h : P1 w0 w N gl gg g n c N 0) (b cb : Nat → Nat) : P2 w0 w N gl gg g n c 0 b cb where
  ls := h.ls
  gs := by
    obtain ⟨cs, hb, hs⟩ := h.gs
    exact ⟨cs, hb, hs, fun i hi => by omega⟩
  gg0 := h.gg0
  gl0 := h.gl0
  row := fun i hi => by
    have := h.row i hi
    rw [if_pos hi] at this
    exact this
  big := fun i hi => by omega
  off := fun i hi => by omega
  but := h.but
theorem P2.below {w0 w w' : World} {N gl gg : Nat} {g n c : Nat → Nat} {k : Nat} {b cb : Nat → Nat} (h : P2 w0 w N gl gg g n c k b cb) (bl : Below w.heap.size w w') : P2 w0 w' N gl gg g n c k b cb where
  ls := h.ls.kept (bl.block _ h.ls.lt)
  gs := by
    obtain ⟨cs, hb, hs⟩ := h.gs
    exact ⟨cs, (bl.block _ hb.lt).trans hb, hs⟩
  gg0 := h.gg0
  gl0 := h.gl0
  row := fun i hi => (h.row i hi).kept (bl.block _ (h.row i hi).lt)
  big := fun i hi => (h.big i hi).kept (bl.block _ (h.big i hi).lt)
  off := h.off
  but := h.but.below bl

/-- .. and of list k so many, in block bb -/
structure P3 (w0 w : World) (N gl gg : Nat) (g n c : Nat → Nat) (k : Nat) (b cb : Nat → Nat) (bb cc m : Nat) : Prop where
  p2 : P2 w0 w N gl gg g n c k b cb
  cur : Marked w k bb cc m
  same : bb = g k → cc = c k
  place : bb = g k ∨ w0.heap.size ≤ bb
  off : ∀ q, q < N → q ≠ k → bb ≠ g q
  old : ∀ i, i < k → b i ≠ bb
  lim : cc ≤ maxLen
theorem P3.below {w0 w w' : World} {N gl gg : Nat} {g n c : Nat → Nat} {k : Nat} {b cb : Nat → Nat} {bb cc m : Nat} (h : P3 w0 w N gl gg g n c k b cb bb cc m) (bl : Below w.heap.size w w') : P3 w0 w' N gl gg g n c k b cb bb cc m :=
  ⟨h.p2.below bl, h.cur.kept (bl.block _ h.cur.lt), h.same, h.place, h.off, h.old, h.lim⟩
theorem P2.start {w0 w : World} {N gl gg : Nat} {g n c : Nat → Nat} {k : Nat} {b cb : Nat → Nat} (h : P2 w0 w N gl gg g n c k b cb) (hk : k < N) (hc : c k ≤ maxLen) (hap : ∀ i, i < N → ∀ q, q < N → i ≠ q → g i ≠ g q) : P3 w0 w N gl gg g n c k b cb (g k) (c k) (n k) :=
  ⟨h, h.row k hk, fun _ => rfl, .inl rfl, fun q hq hqk => hap k hk q hq (fun e => hqk e.symm), fun i hi => h.off i hi k hk (by omega), hc⟩
/-- one more -/
theorem P3.grown {w0 w w' : World} {N gl gg : Nat} {g n c : Nat → Nat} {k : Nat} {b cb : Nat → Nat} {bb cc m : Nat} (h : P3 w0 w N gl gg g n c k b cb bb cc m) (hk : k < N) (hm : n k ≤ m) (b' cc' : Nat) (mrk' : Marked w' k b' cc' (m + 1)) (hl : cc' ≤ maxLen)
    (hw : (b' = bb ∧ cc' = cc ∧ w.grownBy w' (some bb)) ∨ (w.heap.size ≤ b' ∧ Below w.heap.size w w')) : P3 w0 w' N gl gg g n c k b cb b' cc' (m + 1) := by
  rcases hw with ⟨rfl, rfl, gr⟩ | ⟨hb, bl⟩
  · have kp : ∀ q, q < w.heap.size → q ≠ b' → w'.heap[q]? = w.heap[q]? := fun q hq hn => gr.block q hq (fun e => hn (by simpa using e))
    refine ⟨⟨?_, ?_, h.p2.gg0, h.p2.gl0, fun i hi => ?_, fun i hi => ?_, h.p2.off, ?_⟩, mrk', h.same, h.place, h.off, h.old, hl⟩
    · obtain ⟨LA, hb, r⟩ := h.p2.ls
      exact ⟨LA, (kp gl hb.lt (h.cur.ne hb)).trans hb, r⟩
    · obtain ⟨cs, hb, hs⟩ := h.p2.gs
      exact ⟨cs, (kp gg hb.lt (h.cur.ne hb)).trans hb, hs⟩
    · by_cases e : i = k
      · subst e
        by_cases e2 : b' = g i
        · have := mrk'.less (show n i ≤ m + 1 by omega)
          rw [h.same e2, e2] at this
          exact this
        · exact (h.p2.row i hi).kept (kp _ (h.p2.row i hi).lt (fun e => e2 e.symm))
      · exact (h.p2.row i hi).kept (kp _ (h.p2.row i hi).lt (fun e2 => h.off i hi e e2.symm))
    · exact (h.p2.big i hi).kept (kp _ (h.p2.big i hi).lt (h.old i hi))
    · refine h.p2.but.grown gr ?_
      rcases h.place with e | e
      · exact .inl ⟨k, hk, e⟩
      · exact .inr e
  · have hp := h.p2.below bl
    have z := h.p2.but.size
    exact ⟨hp, mrk', fun e => by have := (h.p2.row k hk).lt; omega, .inr (by omega), fun q hq hqk e => by have := (h.p2.row q hq).lt; omega, fun i hi e => by have := (h.p2.big i hi).lt; omega, hl⟩
def at_ {α : Type} (f : Nat → α) (k : Nat) (x : α) : Nat → α := fun i => if i = k then x else f i
theorem at_same {α : Type} (f : Nat → α) (k : Nat) (x : α) : at_ f k x k = x := if_pos rfl
theorem at_other {α : Type} (f : Nat → α) (k i : Nat) (x : α) (h : i ≠ k) : at_ f k x i = f i := if_neg h
/-- it is put into its place -/
theorem P3.put {w0 w : World} {N gl gg : Nat} {g n c : Nat → Nat} {k : Nat} {b cb : Nat → Nat} {bb cc : Nat} (h : P3 w0 w N gl gg g n c k b cb bb cc (n k + 40)) (hk : k < N) :
    P2 w0 (w.setCell ⟨gg, k, none⟩ (.slice (some ⟨bb, 0, none⟩) (n k + 40) cc)) N gl gg g n c (k + 1) (at_ b k bb) (at_ cb k cc) := by
  obtain ⟨cs, hb, hs, he⟩ := h.p2.gs
  have kp : ∀ q, q ≠ gg → (w.setCell ⟨gg, k, none⟩ (.slice (some ⟨bb, 0, none⟩) (n k + 40) cc)).heap[q]? = w.heap[q]? := fun q hn => heap_setCell_other w ⟨gg, k, none⟩ q _ hn
  have hgl : gl ≠ gg := by
    have := h.p2.gl0
    have := h.p2.gg0
    omega
  refine ⟨h.p2.ls.kept (kp gl hgl), ⟨_, hb.store k _, by rw [Array.size_setIfInBounds]; exact hs, fun i hi => ?_⟩, h.p2.gg0, h.p2.gl0, fun i hi => (h.p2.row i hi).kept (kp _ (fun e => (h.p2.row i hi).ne hb e.symm)), fun i hi => ?_, fun i hi q hq hqi => ?_, h.p2.but.grown (grown_store w gg k _) (.inr h.p2.gg0)⟩
  · rw [Array.getElem?_setIfInBounds]
    by_cases e : i = k
    · subst e
      rw [if_pos rfl, if_pos (by omega), at_same, at_same]
    · rw [if_neg (fun e2 => e e2.symm), at_other _ _ _ _ e, at_other _ _ _ _ e]
      exact he i (by omega)
  · by_cases e : i = k
    · subst e
      rw [at_same, at_same]
      exact h.cur.kept (kp _ (fun e => h.cur.ne hb e.symm))
    · rw [at_other _ _ _ _ e, at_other _ _ _ _ e]
      exact (h.p2.big i (by omega)).kept (kp _ (fun e2 => (h.p2.big i (by omega)).ne hb e2.symm))
  · by_cases e : i = k
    · subst e
      rw [at_same]
      exact h.off q hq hqi
    · rw [at_other _ _ _ _ e]
      exact h.p2.off i (by omega) q hq hqi
theorem P2.gsCell {w0 w : World} {N gl gg : Nat} {g n c : Nat → Nat} {k : Nat} {b cb : Nat → Nat} (h : P2 w0 w N gl gg g n c k b cb) (i : Nat) (hi : i < k) : w.cell? ⟨gg, i, none⟩ = some (.slice (some ⟨b i, 0, none⟩) (n i + 40) (cb i)) := by
  obtain ⟨cs, hb, _, he⟩ := h.gs
  rw [hb.cell i, he i hi]
end Go.Proofs.Ytdkaacjeogifdaa.Rc.Apart

/-
  The walk of ApartBytes.
-/
namespace Go.Proofs.Ytdkaacjeogifdaa.Rc.Apart
open Go.RowKit

/-- an append whose run is known, in the walk -/
theorem wpList_append_ran {w : World} {ops : Array Oper} {rest : List Oper} {o : Oper} {a : Act} {Q : Exit → Act → World → Prop} (hgd : o.guard = none) (sl x : Operand) (t u : TypeId)
    (ho : o.op = .call { callee := .builtin .append, args := #[sl, x], argTypes := #[t, u] }) (v s v' : Value) (W : World) (hs : a.eval sl = v) (hx : a.eval x = s)
    (hrun : (Builtin.append_ #[t, u] o.type #[v, s]).run Try.prog w = .ok v' W) (h : wpList Try.prog ops Q rest (a.put o.dst v') W) : wpList Try.prog ops Q (o :: rest) a w := by
  refine wpList_plain hgd fun K hK => ?_
  unfold Oper.wp execOp
  simp only [ho, resolve, invoke, builtin, Sem.run_bind, Sem.run_pure, Result.andThen_ok, List.map_toArray, List.map_cons, List.map_nil, hs, hx, hrun]
  exact hK _ _ h

theorem make_lists (N : Nat) (hN : N ≤ 1000) (u : World) : ∃ cs : Array Value, cs.size = N ∧ (Instr.makeSlice 65 (.int .i64 (N : Int)) (.int .i64 (N : Int))).run Try.prog u = .ok (.slice (some ⟨u.heap.size, 0, none⟩) N N) (u.alloc (.cells cs 26)) := by
  obtain ⟨i0, hi, hz0, hz1, hz2⟩ := info_parts infoB
  have h := run_make (P := Try.prog) u 65 26 i0 (.slice none 0 0) Try.underlying65 hi hz0 .i64 .i64 (N : Int) (N : Int) (by omega) (Int.le_refl _) (by rw [hz2]; omega) (by omega)
  have e : ((N : Int)).toNat = N := by omega
  rw [e, hz1, Nat.mul_one] at h
  exact ⟨_, by simp [madeCells, Value.cells], h⟩

theorem below_drawn (w : World) (n : Nat) : Below w.heap.size w (w.drewN n) := ⟨rfl, rfl, rfl, Nat.le_refl _, fun _ _ => rfl⟩

set_option maxRecDepth 100000 in
set_option maxHeartbeats 8000000 in
theorem apart_at (N gl cl : Nat) (g n c : Nat → Nat) (w : World) (hN : N ≤ 400) (hls : LS w N gl g n c) (hrow : ∀ i, i < N → ∃ cur : Array Value, Box w (g i) cur 5 ∧ cur.size = c i) (hsz : ∀ i, i < N → n i ≤ c i ∧ c i ≤ maxLen ∧ n i ≤ 100000)
    (hap : ∀ i, i < N → ∀ q, q < N → i ≠ q → g i ≠ g q) :
    Calls Try.prog 27 #[.slice (some ⟨gl, 0, none⟩) N cl] w fun e w' => e = .returned (.bool true) ∧ But N g w w' := by
  obtain ⟨cs0, hcs0, hmk⟩ := make_lists N (by omega) w
  have bA := (Below.refl w.heap.size w).alloc (Nat.le_refl _) (.cells cs0 26)
  have I0 : P1 w (w.alloc (.cells cs0 26)) N gl w.heap.size g n c 0 0 := ⟨hls.kept (bA.block _ hls.lt), ⟨cs0, Box.new _ _ _, hcs0⟩, Nat.le_refl _, hls.lt, fun i hi => by
    obtain ⟨cur, hb, hs⟩ := hrow i hi
    have : (if i < 0 then n i else if i = 0 then 0 else 0) = 0 := by split <;> (try split) <;> omega
    rw [this]
    exact ⟨cur, (bA.block _ hb.lt).trans hb, hs, by omega, fun j hj => by omega⟩, (But.refl N g w).below bA⟩
  obtain ⟨gg, hgg⟩ : ∃ gg, gg = w.heap.size := ⟨_, rfl⟩
  obtain ⟨W0, hW0⟩ : ∃ W0, W0 = w.alloc (.cells cs0 26) := ⟨_, rfl⟩
  rw [← hW0] at I0
  rw [← hgg] at I0
  have HW0 : Hid _ := hW0
  have Hgg : Hid _ := hgg
  have Hsz : Hid _ := hsz
  have Hap : Hid _ := hap
  clear hW0 hgg hsz hap bA hcs0 hls hrow
  go_enter Try.func27, Try.ntmps27
  go_wp2_with fail
  rw [← HW0.out, ← Hgg.out]
  clear HW0 Hgg hmk
  go_loopw [4] (fun i wr => ∃ k : Nat, k ≤ N ∧ i = .int .i64 k ∧ P1 w wr N gl gg g n c k 0) (fun i _ => N - (intOf i).toNat)
  case atStart => exact ⟨0, by omega, rfl, I0⟩
  case round =>
    clear I0
    obtain ⟨k, hk, rfl, I⟩ := hrel
    by_cases hlt : k < N
    · have HI : Hid (P1 w wr N gl gg g n c k 0) := I
      obtain ⟨s1, s2, s3⟩ := Hsz.out k hlt
      have gN : (k : Int) < (N : Int) := by omega
      clear I
      go_wp2_with fail
      go_loopw [5] (fun i wr => ∃ j : Nat, j ≤ n k ∧ i = .int .i64 j ∧ P1 w wr N gl gg g n c k j) (fun i _ => n k - (intOf i).toNat)
      case atStart => exact ⟨0, by omega, rfl, HI.out⟩
      case round =>
        clear HI
        obtain ⟨j, hj, rfl, I⟩ := hrel
        have cls := I.ls.cell k hlt
        by_cases hjl : j < n k
        · have HI : Hid (P1 w wr N gl gg g n c k j) := I
          clear I
          go_upto_region 8 with fail
          clear cls
          refine wp_region_any (by kernel_rfl) ?_
          change wpAny _ _ _ _ _ _ _ (World.drew _)
          refine wpAny_take (i := 0) (v := ?_) rfl (by kernel_rfl) (by kernel_rfl) (by kernel_rfl) (fun _ _ _ h => h) (Or.inl ⟨by rfl, ?_⟩) ?_
          rotate_left
          · intro w
            go_simp
            with_reducible rfl
          refine wpAny_take (i := 1) (v := ?_) rfl (by kernel_rfl) (by kernel_rfl) (by kernel_rfl) (fun _ _ _ h => h) (Or.inl ⟨by rfl, ?_⟩) ?_
          rotate_left
          · intro w
            go_simp
            with_reducible rfl
          refine wpAny_take (i := 4) (v := ?_) rfl (by kernel_rfl) (by kernel_rfl) (by kernel_rfl) (fun _ _ _ h => h) (Or.inl ⟨by rfl, ?_⟩) ?_
          rotate_left
          · intro w
            go_simp
            with_reducible rfl
          refine wpAny_take (i := 5) (v := ?_) rfl (by kernel_rfl) (by kernel_rfl) (by kernel_rfl) (fun _ _ _ h => h) (Or.inl ⟨by rfl, ?_⟩) ?_
          rotate_left
          · intro w
            go_simp
            with_reducible rfl
          refine wpAny_take (i := 6) (v := ?_) rfl (by kernel_rfl) (by kernel_rfl) (by kernel_rfl) (fun _ _ _ h => h) (Or.inl ⟨by rfl, ?_⟩) ?_
          rotate_left
          · intro w
            go_simp
            with_reducible rfl
          simp only [Act.put, List.setIfInBounds_toArray, List.set_cons_zero, List.set_cons_succ, List.getElem_toArray, List.getElem_cons_zero, List.getElem_cons_succ]
          have I : P1 w wr.drew N gl gg g n c k j := P1.below HI.out (Below.refl _ _).drew
          clear HI
          obtain ⟨W, hW⟩ : ∃ W, W = wr.drew := ⟨_, rfl⟩
          rw [← hW] at I ⊢
          clear hW
          have cls := I.ls.cell k hlt
          obtain ⟨v0, c0⟩ := (I.here hlt).has j (by omega)
          have f0 := (I.here hlt).frozen j
          have hN9 : N ≤ 400 := hN
          refine wpAny_take (i := 2) (v := ?_) rfl (by kernel_rfl) (by kernel_rfl) (by kernel_rfl) (fun _ _ _ h => h) (Or.inl ⟨by rfl, ?_⟩) ?_
          rotate_left
          · intro w
            go_simp
            with_reducible rfl
          simp only [Act.put, List.setIfInBounds_toArray, List.set_cons_zero, List.set_cons_succ, List.getElem_toArray, List.getElem_cons_zero, List.getElem_cons_succ]
          refine wpAny_of_late (C := SlotsCells [(31, .pointer (some ⟨gl, k, none⟩))] [(⟨gl, k, none⟩, .slice (some ⟨g k, 0, none⟩) (n k) (c k))]) (late := [8, 9]) _ _ _ _ ?_
          refine wpAnyD_take (i := 3) (v := .slice (some ⟨g k, 0, none⟩) (n k) (c k)) rfl (by kernel_rfl) (by kernel_rfl) (by kernel_rfl) (by kernel_rfl) (fun _ _ _ h => h) ?_ (fun fr u h => (SlotsCells.put 32 _ (by rfl)).1 h) (fun fr u h => (SlotsCells.put 32 _ (by rfl)).2 h) ?_ ?_
          · intro fr u hh
            obtain ⟨e1, e2⟩ := hh.load (s := 31) (p := ⟨gl, k, none⟩) (v := .slice (some ⟨g k, 0, none⟩) (n k) (c k)) (by simp) (by simp)
            exact ⟨rfl, by simp [execOp, e1, go_sem, e2]⟩
          · refine ⟨fun p hp => ?_, fun q hq => ?_⟩
            · simp at hp
              subst hp
              rfl
            · simp at hq
              subst hq
              exact cls
          simp only [Act.put, List.setIfInBounds_toArray, List.set_cons_zero, List.set_cons_succ, List.getElem_toArray, List.getElem_cons_zero, List.getElem_cons_succ]
          refine wpAnyD_one (i := 7) (by kernel_rfl) rfl (fun K hK => ?_)
          go_simp
          refine (mark_at k j W (by omega) (by omega)).mono ?_
          rintro e w3 ⟨rfl, rfl⟩
          refine hK _ _ ⟨?_, ?_⟩
          · refine .inr ⟨fun p hp => ?_, fun q hq => ?_⟩
            · simp at hp
              subst hp
              rfl
            · simp at hq
              subst hq
              exact cls
          clear hK K
          refine wpAnyD_one (i := 8) (by kernel_rfl) rfl (fun K hK => ?_)
          go_simp
          refine hK _ _ ⟨.inl rfl, ?_⟩
          clear hK K
          refine wpAnyD_one (i := 9) (by kernel_rfl) rfl (fun K hK => ?_)
          go_simp
          refine hK _ _ ⟨.inl rfl, ?_⟩
          clear hK K
          refine wpAnyD_done (by kernel_rfl) ?_ _
          have I2 := I.step hlt (by omega) Hap.out
          generalize w3.setCell ⟨g k, j, none⟩ (.int .u8 (mrk k j)) = X at I2 ⊢
          clear I cls c0 f0
          go_wp2
          go_roundw
          case rel => exact ⟨j + 1, by omega, by go_num, I2⟩
          case measure => simp [intOf]; omega
        · have hjn : j = n k := by omega
          subst hjn
          have I2 := I.next
          go_wp2
          go_roundw
          case rel => exact ⟨k + 1, by omega, by go_num, I2⟩
          case measure => simp [intOf]; omega
    · have hkN : k = N := by omega
      rw [hkN] at I ⊢
      have J0 := I.grow (fun _ => 0) (fun _ => 0)
      clear I hkN hlt hk
      go_wp2_with fail
      go_loopw [6] (fun i wr => ∃ (k : Nat) (b cb : Nat → Nat), k ≤ N ∧ i = .int .i64 k ∧ P2 w wr N gl gg g n c k b cb) (fun i _ => N - (intOf i).toNat)
      case atStart => exact ⟨0, _, _, by omega, rfl, J0⟩
      case round =>
        clear J0
        obtain ⟨k, b, cb, hk, rfl, J⟩ := hrel
        by_cases hlt : k < N
        · obtain ⟨s1, s2, s3⟩ := Hsz.out k hlt
          have gN : (k : Int) < (N : Int) := by omega
          have cls := J.ls.cell k hlt
          have K0 := J.start hlt s2 Hap.out
          have HK : Hid _ := K0
          clear J K0
          go_wp2_with fail
          clear cls
          go_loopw [7, 8] (fun v i wr => ∃ (j bb cc : Nat), j ≤ 40 ∧ v = .slice (some ⟨bb, 0, none⟩) (n k + j) cc ∧ i = .int .i64 j ∧ P3 w wr N gl gg g n c k b cb bb cc (n k + j)) (fun _ i _ => 40 - (intOf i).toNat)
          case atStart => exact ⟨0, g k, c k, by omega, rfl, rfl, HK.out⟩
          case round =>
            clear HK
            obtain ⟨j, bb, cc, hj, rfl, rfl, J⟩ := hrel
            by_cases hj40 : j < 40
            · have hj2 : (j : Int) < 40 := by omega
              have cls := J.p2.ls.cell k hlt
              have cM := mark_at k (n k + j) wr (by omega) (by omega)
              rw [show ((n k + j : Nat) : Int) = (n k : Int) + (j : Int) by omega] at cM
              have HJ : Hid _ := J
              clear J
              go_wp2_with fail
              refine cM.mono ?_
              rintro e w3 ⟨rfl, rfl⟩
              clear cM cls
              obtain ⟨ga, hga⟩ : ∃ ga, ga = w3.heap.size := ⟨_, rfl⟩
              obtain ⟨V, hV⟩ : ∃ V, V = w3.alloc (.cells #[.int .u8 (mrk k (n k + j))] 5) := ⟨_, rfl⟩
              have bA : Below w3.heap.size w3 V := by rw [hV]; exact (Below.refl _ _).alloc (Nat.le_refl _) _
              have xV : V.cell? ⟨ga, 0, none⟩ = some (.int .u8 (mrk k (n k + j))) := by rw [hV, hga]; exact (Box.new w3 #[.int .u8 (mrk k (n k + j))] 5).cell 0
              have JV := P3.below HJ.out bA
              obtain ⟨b', cc', w4, hrun, m4, l4, hw4⟩ := JV.cur.append JV.lim 26 ga xV (by omega)
              have J4 := JV.grown hlt (by omega) b' cc' m4 l4 hw4
              have HV : Hid _ := hV
              have HG : Hid _ := hga
              have HJ4 : Hid _ := J4
              clear hV hga J4 JV m4 l4 hw4 xV bA HJ
              go_wp2_with (rw [← HG.out, ← HV.out]; at_builtin; refine wpList_append_ran rfl _ _ 26 26 rfl _ _ _ w4 rfl rfl hrun ?_)
              go_roundw
              case rel => exact ⟨j + 1, b', cc', by omega, rfl, by go_num, HJ4.out⟩
              case measure => simp [intOf]; omega
            · have hj4 : j = 40 := by omega
              subst j
              have J2 := J.put hlt
              obtain ⟨cs, hb, hs, _⟩ := J.p2.gs
              have cg : wr.cell? ⟨gg, k, none⟩ = some (cs[k]'(by omega)) := by rw [hb.cell k, Array.getElem?_eq_getElem]
              have fg := hb.frozen k
              generalize (cs[k]'(by omega)) = vg at cg
              clear J hb
              go_wp2
              go_roundw
              case rel => exact ⟨k + 1, _, _, by omega, by go_num, J2⟩
              case measure => simp [intOf]; omega
        · have hkN : k = N := by omega
          rw [hkN] at J ⊢
          clear hkN hlt hk
          go_wp2_with fail
          go_loopw [9] (fun i wr => ∃ k : Nat, k ≤ N ∧ i = .int .i64 k ∧ P2 w wr N gl gg g n c N b cb) (fun i _ => N - (intOf i).toNat)
          case atStart => exact ⟨0, by omega, rfl, J⟩
          case round =>
            clear J
            obtain ⟨k, hk, rfl, J⟩ := hrel
            by_cases hlt : k < N
            · obtain ⟨s1, s2, s3⟩ := Hsz.out k hlt
              have gN : (k : Int) < (N : Int) := by omega
              have HJ : Hid _ := J
              clear J
              go_wp2_with fail
              go_loopw [10] (fun i wr => ∃ j : Nat, j ≤ n k + 40 ∧ i = .int .i64 j ∧ P2 w wr N gl gg g n c N b cb) (fun i _ => n k + 40 - (intOf i).toNat)
              case atStart => exact ⟨0, by omega, rfl, HJ.out⟩
              case round =>
                clear HJ
                obtain ⟨j, hj, rfl, J⟩ := hrel
                have cg := J.gsCell k hlt
                have cl0 := J.ls.cell k hlt
                by_cases hjl : j < n k + 40
                · have c1 := (J.big k hlt).cell j hjl
                  obtain ⟨_, _, _, bl, _⟩ := J.big k hlt
                  have cM := fun q => mark_at k j (wr.drewN q) (by omega) (by omega)
                  have HJ : Hid (P2 w wr N gl gg g n c N b cb) := J
                  by_cases hjn : j < n k
                  · have c2 := (J.row k hlt).cell j hjn
                    clear J
                    go_upto_region 24 with fail
                    go_quiet (exact Calls.quiet_of_same (cM _))
                    have J5 := P2.below HJ.out (below_drawn wr nq)
                    generalize wr.drewN nq = X at J5 ⊢
                    clear HJ cM c1 c2 cg cl0
                    go_wp2
                    go_roundw
                    case rel => exact ⟨j + 1, by omega, by go_num, J5⟩
                    case measure => simp [intOf]; omega
                  · have hjn2 : ¬ (j : Int) < (n k : Int) := by omega
                    clear J
                    go_upto_region 24 with fail
                    go_quiet (exact Calls.quiet_of_same (cM _))
                    have J5 := P2.below HJ.out (below_drawn wr nq)
                    generalize wr.drewN nq = X at J5 ⊢
                    clear HJ cM c1 cg cl0
                    go_wp2
                    go_roundw
                    case rel => exact ⟨j + 1, by omega, by go_num, J5⟩
                    case measure => simp [intOf]; omega
                · have hjn : j = n k + 40 := by omega
                  subst hjn
                  go_wp2
                  go_roundw
                  case rel => exact ⟨k + 1, by omega, by go_num, J⟩
                  case measure => simp [intOf]; omega
            · have hkN : k = N := by omega
              rw [hkN]
              have hb := J.but
              clear J
              go_wp2
              go_ret
              exact ⟨rfl, hb⟩
end Go.Proofs.Ytdkaacjeogifdaa.Rc.Apart

/-
  Rows of 4096 bytes that lie apart, gathered: no walk here.
-/
namespace Go.Proofs.Ytdkaacjeogifdaa.H
open Go.RowKit
open Go.Proofs.Ytdkaacjeogifdaa.Rc (GG GetJ RowB imgC)

def rcC (rs : List (Nat × Nat)) : List Value := rs.map fun p => .slice (some ⟨p.1, 0, none⟩) 4096 p.2
/-- rows of 4096 bytes between two blocks, apart -/
structure Rw (B T : Nat) (W : World) (rs : List (Nat × Nat)) : Prop where
  rows : ∀ p ∈ rs, (∃ ys, RowB W p.1 p.2 ys ∧ ys.length = 4096) ∧ B ≤ p.1 ∧ p.1 < T
  apart : (rs.map Prod.fst).Nodup
theorem Rw.below {B T : Nat} {W W' : World} {rs : List (Nat × Nat)} (h : Rw B T W rs) (b : Below W.heap.size W W') : Rw B T W' rs :=
  ⟨fun p hp => by
    obtain ⟨⟨ys, h1, h2⟩, h3⟩ := h.rows p hp
    exact ⟨⟨ys, h1.same (b.block _ h1.lt), h2⟩, h3⟩, h.apart⟩
theorem Rw.join {B T T' : Nat} {W : World} {rs qs : List (Nat × Nat)} (h : Rw B T W rs) (k : Rw T T' W qs) (hB : B ≤ T) (hT : T ≤ T') : Rw B T' W (rs ++ qs) := by
  refine ⟨fun p hp => ?_, ?_⟩
  · rcases List.mem_append.1 hp with q | q
    · obtain ⟨h1, h2, h3⟩ := h.rows p q
      exact ⟨h1, h2, by omega⟩
    · obtain ⟨h1, h2, h3⟩ := k.rows p q
      exact ⟨h1, by omega, h3⟩
  · rw [List.map_append, List.nodup_append]
    refine ⟨h.apart, k.apart, fun x hx y hy e => ?_⟩
    obtain ⟨p, hp, rfl⟩ := List.mem_map.1 hx
    obtain ⟨q, hq, rfl⟩ := List.mem_map.1 hy
    have h1 := (h.rows p hp).2.2
    have h2 := (k.rows q hq).2.1
    omega
theorem rw_get {B : Nat} {W : World} {qs : List GG} (h : GetJ B W qs) : Rw B W.heap.size W (qs.map fun p => (p.h, p.c)) := by
  refine ⟨fun p hp => ?_, ?_⟩
  · obtain ⟨q, hq, rfl⟩ := List.mem_map.1 hp
    obtain ⟨h1, h2, h3⟩ := h.rows q hq
    exact ⟨⟨q.xs, h1, h3⟩, h2, h1.lt⟩
  · rw [List.map_map]
    exact h.apart
theorem own_rowB {w : World} {g : Nat} {ys : List UInt8} (h : Rc.Own w g ys) (hl : ys.length = 4096) : RowB w g 4096 ys :=
  ⟨(Rc.bcs ys).toArray, h, by omega, by unfold maxLen; omega, by simp [Rc.bcs_length, hl], by simp [List.take_of_length_le, Rc.bcs_length]⟩
theorem rw_two {B T g1 g2 : Nat} {W : World} {xs ys : List UInt8} (h1 : Rc.Own W g1 xs) (h2 : Rc.Own W g2 ys) (hx : xs.length = 4096) (hy : ys.length = 4096) (hB : B ≤ g1) (hlt : g1 < g2) (hT : g2 < T) : Rw B T W [(g1, 4096), (g2, 4096)] := by
  refine ⟨fun p hp => ?_, by simp; omega⟩
  simp only [List.mem_cons, List.not_mem_nil, or_false] at hp
  rcases hp with rfl | rfl
  · exact ⟨⟨xs, own_rowB h1 hx, hx⟩, hB, by omega⟩
  · exact ⟨⟨ys, own_rowB h2 hy, hy⟩, by omega, hT⟩
def duo (X Y : List (Nat × Nat)) (k : Nat) : List (Nat × Nat) := (List.range k).flatMap fun i => [X.getD i (0, 0), Y.getD i (0, 0)]
theorem duo_succ (X Y : List (Nat × Nat)) (k : Nat) : duo X Y (k + 1) = duo X Y k ++ [X.getD k (0, 0), Y.getD k (0, 0)] := by simp [duo, List.range_succ]
theorem duo_mem {X Y : List (Nat × Nat)} {k : Nat} {p : Nat × Nat} (h : p ∈ duo X Y k) : ∃ i, i < k ∧ (p = X.getD i (0, 0) ∨ p = Y.getD i (0, 0)) := by
  unfold duo at h
  obtain ⟨i, hi, hp⟩ := List.mem_flatMap.1 h
  exact ⟨i, by simpa using hi, by simpa using hp⟩
theorem duo_length (X Y : List (Nat × Nat)) (k : Nat) : (duo X Y k).length = k * 2 := by
  induction k with
  | zero => rfl
  | succ k ih => rw [duo_succ, List.length_append, ih]; simp; omega
theorem getD_mem {C : List (Nat × Nat)} {i : Nat} (h : i < C.length) : C.getD i (0, 0) ∈ C := by
  rw [List.getD_eq_getElem?_getD, List.getElem?_eq_getElem h]
  exact List.getElem_mem h
theorem getD_inj {C : List (Nat × Nat)} (hc : (C.map Prod.fst).Nodup) {i j : Nat} (hi : i < C.length) (hj : j < C.length) (e : (C.getD i (0, 0)).1 = (C.getD j (0, 0)).1) : i = j := by
  rw [List.getD_eq_getElem?_getD, List.getD_eq_getElem?_getD, List.getElem?_eq_getElem hi, List.getElem?_eq_getElem hj] at e
  have h1 : (C.map Prod.fst)[i]'(by simpa using hi) = (C.map Prod.fst)[j]'(by simpa using hj) := by simpa using e
  exact (List.getElem_inj hc).1 h1
theorem rw_duo {B1 B2 B3 : Nat} {W : World} {X Y : List (Nat × Nat)} {n : Nat} (hX : Rw B1 B2 W X) (hY : Rw B2 B3 W Y) (lx : X.length = n) (ly : Y.length = n) : ∀ k, k ≤ n → Rw B1 B3 W (duo X Y k) := by
  intro k
  induction k with
  | zero => exact fun _ => ⟨fun p hp => (by cases hp), List.nodup_nil⟩
  | succ k ih =>
    intro hk
    have h := ih (by omega)
    obtain ⟨x1, x2, x3⟩ := hX.rows _ (getD_mem (show k < X.length by omega))
    obtain ⟨y1, y2, y3⟩ := hY.rows _ (getD_mem (show k < Y.length by omega))
    rw [duo_succ]
    refine ⟨fun p hp => ?_, ?_⟩
    · rcases List.mem_append.1 hp with hp | hp
      · exact h.rows p hp
      · simp only [List.mem_cons, List.not_mem_nil, or_false] at hp
        rcases hp with rfl | rfl
        · exact ⟨x1, x2, by omega⟩
        · exact ⟨y1, by omega, y3⟩
    · rw [List.map_append, List.nodup_append]
      refine ⟨h.apart, by simp only [List.map_cons, List.map_nil, List.nodup_cons, List.mem_cons, List.not_mem_nil, or_false, not_false_eq_true, List.nodup_nil, and_true]; omega, fun a ha b hb e => ?_⟩
      obtain ⟨p, hp, rfl⟩ := List.mem_map.1 ha
      obtain ⟨i, hi, hpi⟩ := duo_mem hp
      simp only [List.map_cons, List.map_nil, List.mem_cons, List.not_mem_nil, or_false] at hb
      obtain ⟨_, xi2, xi3⟩ := hX.rows _ (getD_mem (show i < X.length by omega))
      obtain ⟨_, yi2, yi3⟩ := hY.rows _ (getD_mem (show i < Y.length by omega))
      rcases hpi with rfl | rfl <;> rcases hb with rfl | rfl
      · have := getD_inj hX.apart (by omega) (by omega) e
        omega
      · omega
      · omega
      · have := getD_inj hY.apart (by omega) (by omega) e
        omega
theorem img_cells {w : World} {B m : Nat} {g n c : Nat} {qs : List GG} (ho : w.ownsRow B 37 2 (.slice (some ⟨g, 0, none⟩) n c) m (imgC qs)) (hm : qs.length = m) (h0 : 0 < m) : g < w.heap.size ∧ ∀ i, i < m → w.cell? ⟨g, i * 2 + 1, none⟩ = some (.slice (some ⟨((qs.map fun p => (p.h, p.c)).getD i (0, 0)).1, 0, none⟩) 4096 ((qs.map fun p => (p.h, p.c)).getD i (0, 0)).2) := by
  obtain ⟨g', he, _, ⟨cur, hb⟩, hc⟩ := owns_cells ho h0
  obtain rfl : g = g' := by simpa using he
  refine ⟨hb.lt, fun i hi => ?_⟩
  have hi' : i < qs.length := by omega
  rw [hc _ (by omega), (Rc.imgC_at qs i hi').2]
  simp [hi']
end Go.Proofs.Ytdkaacjeogifdaa.H

/-
  ReplaySpares' walk.
-/
namespace Go.Proofs.Ytdkaacjeogifdaa.H
open Go.RowKit
open Go.Proofs.Ytdkaacjeogifdaa.Rc (madeL Imgs GG GetJ imgC)
open Go.Proofs.Ytdkaacjeogifdaa.Dk (Box)

theorem pick46 (x : Int) (w : World) : Calls Try.prog 22 #[.int .i64 x, .int .i64 46] w fun e w' => ∃ p : Nat, p < 46 ∧ e = .returned (.int .i64 p) ∧ w = w' := Su.pick_at x 46 w (by decide) (by decide)
/-- the law's two groups, in memory -/
structure Two (w u : World) (n m : Int) (ha hb gA gB gG : Nat) (m1 m2 : List UInt8) : Prop where
  bel : Below w.heap.size w u
  xA : Box u gA #[.int .i64 n, .slice (some ⟨ha, 0, none⟩) 4096 4096] 37
  xB : Box u gB #[.int .i64 m, .slice (some ⟨hb, 0, none⟩) 4096 4096] 37
  xG : Box u gG #[.int .i64 0, .int .i64 0, .slice (some ⟨gA, 0, none⟩) 1 1, .int .i64 0, .int .i64 0, .slice (some ⟨gB, 0, none⟩) 1 1] 40
  o1 : Rc.Own u ha m1
  o2 : Rc.Own u hb m2
  lo : w.heap.size ≤ ha
  lt : ha < hb
theorem Two.below {w u u' : World} {n m : Int} {ha hb gA gB gG : Nat} {m1 m2 : List UInt8} (h : Two w u n m ha hb gA gB gG m1 m2) (b : Below u.heap.size u u') : Two w u' n m ha hb gA gB gG m1 m2 :=
  ⟨h.bel.trans (b.mono h.bel.size), h.xA.below b, h.xB.below b, h.xG.below b, h.o1.below b h.o1.lt, h.o2.below b h.o2.lt, h.lo, h.lt⟩
theorem Two.home {w u : World} {n m : Int} {ha hb gA gB gG : Nat} {m1 m2 : List UInt8} (h : Two w u n m ha hb gA gB gG m1 m2) (l1 : m1.length = 4096) (l2 : m2.length = 4096) (hn : 18 ≤ n ∧ n ≤ 63) (hm : 18 ≤ m ∧ m ≤ 63) :
    Calls Try.prog 8 #[.agg lay, .slice (some ⟨gG, 0, none⟩) 2 2] u fun r w' => ∃ a c ks qs, r = .returned (.tuple #[.slice a (List.length ks) c, .int .i64 0]) ∧ HomeR u.heap.size [(n, m1), (m, m2)] ks qs a c w' ∧ Below u.heap.size u w' :=
  home_at u (some ⟨gG, 0, none⟩) 2 2 [⟨0, 0, some ⟨gA, 0, none⟩, 1, [(n, some ⟨ha, 0, none⟩, 4096, 4096)]⟩, ⟨0, 0, some ⟨gB, 0, none⟩, 1, [(m, some ⟨hb, 0, none⟩, 4096, 4096)]⟩]
    [((n, some ⟨ha, 0, none⟩, 4096, 4096), m1), ((m, some ⟨hb, 0, none⟩, 4096, 4096), m2)] rfl (by decide) (cellsG_two h.xG rfl (by decide) (cellsI_one h.xA) rfl (by decide) (cellsI_one h.xB)) rfl
    (fun p hp => by
      simp only [List.mem_cons, List.not_mem_nil, or_false] at hp
      rcases hp with rfl | rfl
      · exact ⟨h.o1.rd, l1, rfl⟩
      · exact ⟨h.o2.rd, l2, rfl⟩)
    (fun p hp => by
      simp only [List.mem_cons, List.not_mem_nil, or_false] at hp
      rcases hp with rfl | rfl <;> (dsimp only; omega))
theorem two_keys {n m : Int} {m1 m2 : List UInt8} {ks : List Int} (h1 : ks.Pairwise (· < ·)) (h2 : ∀ x, x ∈ ks ↔ (lastD [(n, m1), (m, m2)] x).isSome = true) : ks.length ≤ 2 ∧ 0 < ks.length := by
  have hm : ∀ x, x ∈ ks ↔ x = n ∨ x = m := fun x => by
    rw [h2 x]
    simp only [lastD, List.foldl_cons, List.foldl_nil]
    by_cases e1 : n = x
    · subst e1
      by_cases e2 : m = n <;> simp [e2]
    · by_cases e2 : m = x
      · subst e2; simp
      · simp [e1, e2]
        exact ⟨fun h => e1 h.symm, fun h => e2 h.symm⟩
  refine ⟨nodup_le ks [n, m] (h1.imp (fun {a b} h => by omega)) (fun x hx => by simpa using (hm x).1 hx), List.length_pos_of_mem ((hm n).2 (.inl rfl))⟩
/-- what stands ahead of the gathering -/
structure SpS (w W : World) (n m : Int) (ha hb gA gB gG gx gy k c c' T : Nat) (X Y : List (Nat × Nat)) (m1 m2 : List UInt8) : Prop where
  two : Two w W n m ha hb gA gB gG m1 m2
  cx : ∀ i, i < k → W.cell? ⟨gx, i * 2 + 1, none⟩ = some (.slice (some ⟨(X.getD i (0, 0)).1, 0, none⟩) 4096 (X.getD i (0, 0)).2)
  cy : ∀ i, i < k → W.cell? ⟨gy, i * 2 + 1, none⟩ = some (.slice (some ⟨(Y.getD i (0, 0)).1, 0, none⟩) 4096 (Y.getD i (0, 0)).2)
  lx : gx < W.heap.size
  ly : gy < W.heap.size
  rows : Rw w.heap.size T W ([(ha, 4096), (hb, 4096)] ++ duo X Y k)
theorem SpS.below {w W W' : World} {n m : Int} {ha hb gA gB gG gx gy k c c' T : Nat} {X Y : List (Nat × Nat)} {m1 m2 : List UInt8} (h : SpS w W n m ha hb gA gB gG gx gy k c c' T X Y m1 m2) (b : Below W.heap.size W W') : SpS w W' n m ha hb gA gB gG gx gy k c c' T X Y m1 m2 where
  two := h.two.below b
  cx := fun i hi => (b.cell (p := ⟨gx, i * 2 + 1, none⟩) h.lx).trans (h.cx i hi)
  cy := fun i hi => (b.cell (p := ⟨gy, i * 2 + 1, none⟩) h.ly).trans (h.cy i hi)
  lx := Nat.lt_of_lt_of_le h.lx b.size
  ly := Nat.lt_of_lt_of_le h.ly b.size
  rows := h.rows.below b

set_option maxRecDepth 100000 in
set_option maxHeartbeats 8000000 in
theorem spares_at (n0 m0 : Int) (w : World) : Calls Try.prog 5 #[.int .i64 n0, .int .i64 m0] w fun r w' => r = .returned (.bool true) ∧ Below w.heap.size w w' := by
  obtain ⟨j0, ji, jz0, jz1, jz2⟩ := info_parts Rc.Apart.infoB
  have HA : Hid (∀ u : World, Calls Try.prog 19 #[] u fun r w' => r = .returned (.bool true) ∧ Below u.heap.size u w') := awake_at
  have HLy : Hid (∀ u : World, Calls Try.prog 9 #[] u fun r w' => r = .returned (.agg #[.int .i64 64, .int .i64 2, .int .i64 16, .int .i64 18, .int .i64 19, .int .i64 4, .int .i64 23]) ∧ Below u.heap.size u w') := fun u => layout64_at u
  have M1 : ∀ (n : Int) (u : World), Calls Try.prog 10 #[.int .i64 n, .int .i64 1] u fun r w' => ∃ g, r = .returned (.agg #[.int .i64 n, .slice (some ⟨g, 0, none⟩) 4096 4096]) ∧ u.heap.size ≤ g ∧ Rc.Own w' g (madeL 1 4096) ∧ Below u.heap.size u w' := fun n u => made_at n 1 u
  have M2 : ∀ (n : Int) (u : World), Calls Try.prog 10 #[.int .i64 n, .int .i64 2] u fun r w' => ∃ g, r = .returned (.agg #[.int .i64 n, .slice (some ⟨g, 0, none⟩) 4096 4096]) ∧ u.heap.size ≤ g ∧ Rc.Own w' g (madeL 2 4096) ∧ Below u.heap.size u w' := fun n u => made_at n 2 u
  have l1 : Hid ((madeL 1 4096).length = 4096) := madeL_len 1
  have l2 : Hid ((madeL 2 4096).length = 4096) := madeL_len 2
  generalize madeL 1 4096 = m1 at M1 l1
  generalize madeL 2 4096 = m2 at M2 l2
  have HM1 : Hid (∀ (n : Int) (u : World), Calls Try.prog 10 #[.int .i64 n, .int .i64 1] u fun r w' => ∃ g, r = .returned (.agg #[.int .i64 n, .slice (some ⟨g, 0, none⟩) 4096 4096]) ∧ u.heap.size ≤ g ∧ Rc.Own w' g m1 ∧ Below u.heap.size u w') := M1
  have HM2 : Hid (∀ (n : Int) (u : World), Calls Try.prog 10 #[.int .i64 n, .int .i64 2] u fun r w' => ∃ g, r = .returned (.agg #[.int .i64 n, .slice (some ⟨g, 0, none⟩) 4096 4096]) ∧ u.heap.size ≤ g ∧ Rc.Own w' g m2 ∧ Below u.heap.size u w') := M2
  clear M1 M2
  go_enter Try.func5, Try.ntmps5
  go_wp2_with fail
  refine Calls.mono (pick46 n0 _) ?_
  rintro r u0 ⟨p, hp, rfl, rfl⟩
  go_wp2_with fail
  refine Calls.mono (pick46 m0 _) ?_
  rintro r u0 ⟨q, hq, rfl, rfl⟩
  have hwp : IntKind.i64.wrap (18 + (p : Int)) = 18 + p := by rw [IntKind.wrap_i64]; omega
  have hwq : IntKind.i64.wrap (18 + (q : Int)) = 18 + q := by rw [IntKind.wrap_i64]; omega
  go_wp2_with fail
  have hn : Hid (18 ≤ (18 + p : Int) ∧ (18 + p : Int) ≤ 63) := by show _ ∧ _; omega
  have hm : Hid (18 ≤ (18 + q : Int) ∧ (18 + q : Int) ≤ 63) := by show _ ∧ _; omega
  generalize (18 + (p : Int)) = n at hn ⊢
  generalize (18 + (q : Int)) = m at hm ⊢
  clear hwp hwq hp hq
  refine Calls.mono (HM1.out n _) ?_
  rintro r u1 ⟨ha, rfl, lha, o1, b1⟩
  have bA := (Below.refl u1.heap.size u1).alloc (Nat.le_refl _) (.cells #[.int .i64 n, .slice (some ⟨ha, 0, none⟩) 4096 4096] 37)
  have xA := Box.new u1 #[.int .i64 n, .slice (some ⟨ha, 0, none⟩) 4096 4096] 37
  have B2 := b1.alloc b1.size (.cells #[.int .i64 n, .slice (some ⟨ha, 0, none⟩) 4096 4096] 37)
  have o12 := o1.below bA o1.lt
  have lt1 := o1.lt
  obtain ⟨w2, hw2⟩ : ∃ u, u = u1.alloc (.cells #[.int .i64 n, .slice (some ⟨ha, 0, none⟩) 4096 4096] 37) := ⟨_, rfl⟩
  obtain ⟨gA, hgA⟩ : ∃ u, u = u1.heap.size := ⟨_, rfl⟩
  have z2 := bA.size
  rw [← hw2] at B2 xA o12 z2
  rw [← hgA] at xA z2 lt1
  have HW2 : Hid (w2 = u1.alloc (.cells #[.int .i64 n, .slice (some ⟨ha, 0, none⟩) 4096 4096] 37)) := hw2
  have HGA : Hid (gA = u1.heap.size) := hgA
  clear bA hw2 hgA o1 b1
  go_wp2_with fail
  rw [← HW2.out, ← HGA.out]
  clear HW2 HGA
  refine Calls.mono (HM2.out m _) ?_
  rintro r u3 ⟨hb, rfl, lhb, o2, b3⟩
  have al := ((Below.refl u3.heap.size u3).alloc (Nat.le_refl _) (.cells #[.int .i64 m, .slice (some ⟨hb, 0, none⟩) 4096 4096] 37)).alloc (by simp) (.cells #[.int .i64 0, .int .i64 0, .slice (some ⟨gA, 0, none⟩) 1 1, .int .i64 0, .int .i64 0, .slice (some ⟨u3.heap.size, 0, none⟩) 1 1] 40)
  have xB := (Box.new u3 #[.int .i64 m, .slice (some ⟨hb, 0, none⟩) 4096 4096] 37).alloc (.cells #[.int .i64 0, .int .i64 0, .slice (some ⟨gA, 0, none⟩) 1 1, .int .i64 0, .int .i64 0, .slice (some ⟨u3.heap.size, 0, none⟩) 1 1] 40)
  have xG := Box.new (u3.alloc (.cells #[.int .i64 m, .slice (some ⟨hb, 0, none⟩) 4096 4096] 37)) #[.int .i64 0, .int .i64 0, .slice (some ⟨gA, 0, none⟩) 1 1, .int .i64 0, .int .i64 0, .slice (some ⟨u3.heap.size, 0, none⟩) 1 1] 40
  have hz : (u3.alloc (.cells #[.int .i64 m, .slice (some ⟨hb, 0, none⟩) 4096 4096] 37)).heap.size = u3.heap.size + 1 := by simp
  rw [hz] at xG
  clear hz
  have B3 := B2.trans (b3.mono B2.size)
  have S4 : Two w ((u3.alloc (.cells #[.int .i64 m, .slice (some ⟨hb, 0, none⟩) 4096 4096] 37)).alloc (.cells #[.int .i64 0, .int .i64 0, .slice (some ⟨gA, 0, none⟩) 1 1, .int .i64 0, .int .i64 0, .slice (some ⟨u3.heap.size, 0, none⟩) 1 1] 40)) n m ha hb gA u3.heap.size (u3.heap.size + 1) m1 m2 :=
    ⟨B3.trans (al.mono B3.size), (xA.below b3).below al, xB, xG, (o12.below b3 o12.lt).below al (Nat.lt_of_lt_of_le o12.lt b3.size), o2.below al o2.lt, lha, by omega⟩
  obtain ⟨w4, hw4⟩ : ∃ u, u = (u3.alloc (.cells #[.int .i64 m, .slice (some ⟨hb, 0, none⟩) 4096 4096] 37)).alloc (.cells #[.int .i64 0, .int .i64 0, .slice (some ⟨gA, 0, none⟩) 1 1, .int .i64 0, .int .i64 0, .slice (some ⟨u3.heap.size, 0, none⟩) 1 1] 40) := ⟨_, rfl⟩
  obtain ⟨gG, hgG⟩ : ∃ u, u = u3.heap.size + 1 := ⟨_, rfl⟩
  rw [← hw4, ← hgG] at S4
  have HW4 : Hid (w4 = (u3.alloc (.cells #[.int .i64 m, .slice (some ⟨hb, 0, none⟩) 4096 4096] 37)).alloc (.cells #[.int .i64 0, .int .i64 0, .slice (some ⟨gA, 0, none⟩) 1 1, .int .i64 0, .int .i64 0, .slice (some ⟨u3.heap.size, 0, none⟩) 1 1] 40)) := hw4
  have HGG : Hid (gG = u3.heap.size + 1) := hgG
  have HS4 : Hid (Two w w4 n m ha hb gA u3.heap.size gG m1 m2) := S4
  clear hw4 hgG al xB xG B3 B2 b3 o12 o2 xA lt1 z2 lha lhb S4
  go_wp2_with fail
  rw [← HW4.out, ← HGG.out]
  clear HW4 HGG
  refine Calls.mono (HLy.out _) ?_
  rintro r u5 ⟨rfl, b5⟩
  have S5 := HS4.out.below b5
  have cH := S5.home l1.out l2.out hn.out hm.out
  have HS5 : Hid (Two w u5 n m ha hb gA u3.heap.size gG m1 m2) := S5
  unfold lay at cH
  clear HS4 b5 S5
  go_wp2_with fail
  refine Calls.mono cH ?_
  rintro r u6 ⟨ax, cx, ks, qs, rfl, R6, b6⟩
  have S6 : Hid (Two w u6 n m ha hb gA u3.heap.size gG m1 m2) := HS5.out.below b6
  have HR6 : Hid (HomeR u5.heap.size [(n, m1), (m, m2)] ks qs ax cx u6) := R6
  obtain ⟨hk2, hk0⟩ := two_keys R6.rise R6.keys
  obtain ⟨k, hk⟩ : ∃ k, k = ks.length := ⟨_, rfl⟩
  have HK : Hid (k = ks.length) := hk
  rw [← hk] at hk2 hk0 ⊢
  have z6 : Hid (hb < u5.heap.size) := HS5.out.o2.lt
  clear cH hk b6 R6 HS5
  go_wp2_with fail
  refine Calls.mono (HLy.out _) ?_
  rintro r u7 ⟨rfl, b7⟩
  have S7 := S6.out.below b7
  have cH := S7.home l1.out l2.out hn.out hm.out
  have HS7 : Hid (Two w u7 n m ha hb gA u3.heap.size gG m1 m2) := S7
  have HB7 : Hid (Below u6.heap.size u6 u7) := b7
  unfold lay at cH
  clear S6 b7 S7
  go_wp2_with fail
  refine Calls.mono cH ?_
  rintro r u8 ⟨ay, cy, ks', qs', rfl, R8, b8⟩
  have hke : ks' = ks := rise_ext _ _ R8.rise HR6.out.rise (fun x => (R8.keys x).trans (HR6.out.keys x).symm)
  subst hke
  rw [← HK.out]
  have S8 := HS7.out.below b8
  have b68 := HB7.out.trans (b8.mono HB7.out.size)
  have I6 := HR6.out.imgs.below b68
  have I8 := R8.imgs
  have cS := Rc.sameImages_at ax ay k cx k cy _ _ u8 (by rw [List.length_map, HK.out]) (by rw [List.length_map, HK.out]) (by omega) I6 I8
  rw [decide_eq_true rfl] at cS
  have lq : qs.length = k := by rw [HK.out]; simpa using congrArg List.length HR6.out.bytes
  have lq' : qs'.length = k := by rw [HK.out]; simpa using congrArg List.length R8.bytes
  have row6 := HR6.out.row
  have row8 := R8.row
  rw [← HK.out] at row6 row8
  obtain ⟨gx, rfl, _, _, _⟩ := owns_cells row6 hk0
  obtain ⟨gy, rfl, _, _, _⟩ := owns_cells row8 hk0
  obtain ⟨lgx, CX⟩ := img_cells row6 lq hk0
  obtain ⟨lgy, CY⟩ := img_cells row8 lq' hk0
  have hS : SpS w u8 n m ha hb gA u3.heap.size gG gx gy k cx cy u8.heap.size (qs.map fun p => (p.h, p.c)) (qs'.map fun p => (p.h, p.c)) m1 m2 := by
    have r1 := rw_two (B := w.heap.size) (T := u5.heap.size) S8.o1 S8.o2 l1.out l2.out S8.lo S8.lt z6.out
    have r2 := (rw_get HR6.out.get).below b68
    have r3 := rw_get R8.get
    have r2' : Rw u5.heap.size u7.heap.size u8 (qs.map fun p => (p.h, p.c)) := ⟨fun p hp => ⟨(r2.rows p hp).1, (r2.rows p hp).2.1, Nat.lt_of_lt_of_le (r2.rows p hp).2.2 HB7.out.size⟩, r2.apart⟩
    have r4 := rw_duo r2' r3 (by simpa using lq) (by simpa using lq') k (Nat.le_refl _)
    exact ⟨S8, fun i hi => (b68.cell (p := ⟨gx, i * 2 + 1, none⟩) lgx).trans (CX i hi), CY, Nat.lt_of_lt_of_le lgx b68.size, lgy, r1.join r4 (Nat.le_trans (Nat.le_trans S8.lo (Nat.le_of_lt S8.lt)) (Nat.le_of_lt z6.out)) (by
      have := r4.rows
      have h1 := HR6.out
      have h2 := b8.size
      have h3 := HB7.out.size
      obtain ⟨_, h4, h5⟩ := r2.rows _ (getD_mem (i := 0) (C := qs.map fun p => (p.h, p.c)) (by simp; omega))
      omega)⟩
  generalize (qs.map fun p => (p.h, p.c)) = X at hS
  generalize (qs'.map fun p => (p.h, p.c)) = Y at hS
  clear cH S8 I6 I8 row6 row8 CX CY lgx lgy lq lq' b8 b68 HB7 HS7 R8 HR6 z6
  have HS : Hid (SpS w u8 n m ha hb gA u3.heap.size gG gx gy k cx cy u8.heap.size X Y m1 m2) := hS
  clear hS
  go_wp2_with fail
  refine Calls.mono cS ?_
  rintro r u9 ⟨rfl, b9⟩
  clear cS
  have hS9 := HS.out.below b9
  have HS9 : Hid (SpS w u9 n m ha hb gA u3.heap.size gG gx gy k cx cy u8.heap.size X Y m1 m2) := hS9
  clear HS b9
  go_upto_region 7 with fail
  have HC : Hid (∀ u : World, Below u9.heap.size u9 u → u.cell? ⟨gG, 2, none⟩ = some (.slice (some ⟨gA, 0, none⟩) 1 1) ∧ u.cell? ⟨gG, 5, none⟩ = some (.slice (some ⟨u3.heap.size, 0, none⟩) 1 1) ∧ u.cell? ⟨gA, 1, none⟩ = some (.slice (some ⟨ha, 0, none⟩) 4096 4096) ∧ u.cell? ⟨u3.heap.size, 1, none⟩ = some (.slice (some ⟨hb, 0, none⟩) 4096 4096)) := fun u hu =>
    ⟨(HS9.out.two.xG.below hu).cell 2, (HS9.out.two.xG.below hu).cell 5, (HS9.out.two.xA.below hu).cell 1, (HS9.out.two.xB.below hu).cell 1⟩
  have b0 := Below.refl u9.heap.size u9
  go_region_held3 (fun u => u.cell? ⟨gG, 2, none⟩ = some (.slice (some ⟨gA, 0, none⟩) 1 1) ∧ u.cell? ⟨gG, 5, none⟩ = some (.slice (some ⟨u3.heap.size, 0, none⟩) 1 1) ∧ u.cell? ⟨gA, 1, none⟩ = some (.slice (some ⟨ha, 0, none⟩) 4096 4096) ∧ u.cell? ⟨u3.heap.size, 1, none⟩ = some (.slice (some ⟨hb, 0, none⟩) 4096 4096))
    (first | with_reducible exact HC.out _ b0.drew | with_reducible exact HC.out _ ((b0.alloc (Nat.le_refl _) _).drew))
    (fail)
  clear HC
  have bB : Below u9.heap.size u9 ((u9.alloc (.cells #[.slice (some ⟨ha, 0, none⟩) 4096 4096, .slice (some ⟨hb, 0, none⟩) 4096 4096] 26)).drew) := (b0.alloc (Nat.le_refl _) _).drew
  have OB : Hid (((u9.alloc (.cells #[.slice (some ⟨ha, 0, none⟩) 4096 4096, .slice (some ⟨hb, 0, none⟩) 4096 4096] 26)).drew).ownsRow u9.heap.size 26 1 (.slice (some ⟨u9.heap.size, 0, none⟩) 2 2) (2 + 2 * 0) (rcC ([(ha, 4096), (hb, 4096)] ++ duo X Y 0))) :=
    ⟨by simp [rcC, duo], .inr ⟨u9.heap.size, 2, #[.slice (some ⟨ha, 0, none⟩) 4096 4096, .slice (some ⟨hb, 0, none⟩) 4096 4096], rfl, Nat.le_refl _, heap_alloc_new u9 _, by omega, by unfold maxLen; omega, rfl, rfl⟩⟩
  clear b0 hS9
  go_wp2_with fail
  go_loopw [10, 11] (fun v10 v11 u => ∃ j : Nat, j ≤ k ∧ v11 = .int .i64 (j : Int) ∧ u.ownsRow u9.heap.size 26 1 v10 (2 + 2 * j) (rcC ([(ha, 4096), (hb, 4096)] ++ duo X Y j)) ∧ Below u9.heap.size u9 u) (fun _ i _ => k - (intOf i).toNat)
  case atStart => exact ⟨0, Nat.zero_le _, rfl, OB.out, bB⟩
  case round =>
    clear OB bB
    obtain ⟨j, hj, rfl, own, b⟩ := hrel
    obtain ⟨av, cv, rfl⟩ := Rc.owns_shape own
    have OWN : Hid (wr.ownsRow u9.heap.size 26 1 (.slice av (2 + 2 * j) cv) (2 + 2 * j) (rcC ([(ha, 4096), (hb, 4096)] ++ duo X Y j))) := own
    clear own
    by_cases hlt : j < k
    · have cX := HS9.out.cx j hlt
      have cY := HS9.out.cy j hlt
      have hts : Hid (duo X Y (j + 1) = duo X Y j ++ [X.getD j (0, 0), Y.getD j (0, 0)]) := duo_succ _ _ _
      generalize X.getD j (0, 0) = px at cX hts
      generalize Y.getD j (0, 0) = py at cY hts
      obtain ⟨hx, cx1⟩ := px
      obtain ⟨hy, cy1⟩ := py
      dsimp only at cX cY
      have HC : Hid (∀ u : World, Below u9.heap.size u9 u → u.cell? ⟨gx, j * 2 + 1, none⟩ = some (.slice (some ⟨hx, 0, none⟩) 4096 cx1) ∧ u.cell? ⟨gy, j * 2 + 1, none⟩ = some (.slice (some ⟨hy, 0, none⟩) 4096 cy1)) := fun u hu =>
        ⟨(hu.cell (p := ⟨gx, j * 2 + 1, none⟩) HS9.out.lx).trans cX, (hu.cell (p := ⟨gy, j * 2 + 1, none⟩) HS9.out.ly).trans cY⟩
      have hki : (j : Int) < (k : Int) := by omega
      have hk0' : (0 : Int) ≤ (j : Int) := by omega
      clear cX cY
      go_upto_region 11 with fail
      have BD : Below u9.heap.size u9 ((wr.alloc (.cells #[.slice (some ⟨hx, 0, none⟩) 4096 cx1, .slice (some ⟨hy, 0, none⟩) 4096 cy1] 26)).drew) := (b.alloc b.size _).drew
      have OD : Hid (((wr.alloc (.cells #[.slice (some ⟨hx, 0, none⟩) 4096 cx1, .slice (some ⟨hy, 0, none⟩) 4096 cy1] 26)).drew).ownsRow u9.heap.size 26 1 (.slice av (2 + 2 * j) cv) (2 + 2 * j) (rcC ([(ha, 4096), (hb, 4096)] ++ duo X Y j))) := Rc.owns_below OWN.out ((((Below.refl wr.heap.size wr)).alloc (Nat.le_refl _) _).drew)
      go_region_held3 (fun u => u.cell? ⟨gx, j * 2 + 1, none⟩ = some (.slice (some ⟨hx, 0, none⟩) 4096 cx1) ∧ u.cell? ⟨gy, j * 2 + 1, none⟩ = some (.slice (some ⟨hy, 0, none⟩) 4096 cy1))
        (first | with_reducible exact HC.out _ b.drew | with_reducible exact HC.out _ BD | with_reducible exact HC.out _ BE)
        ((refine step_append_lies _ (by rfl) _ _ _ (by rfl) u9.heap.size 26 j0 (.slice none 0 0) 1 24 Try.underlying65 ji jz0 jz1 jz2 rfl (by omega) (.slice av (2 + 2 * j) cv) (2 + 2 * j) (rcC ([(ha, 4096), (hb, 4096)] ++ duo X Y j)) (by rfl) OD.out
              ⟨wr.heap.size, 0, none⟩ 2 2 [.slice (some ⟨hx, 0, none⟩) 4096 cx1, .slice (some ⟨hy, 0, none⟩) 4096 cy1] (by rfl) (by rfl) (World.news_of_block (cs := #[.slice (some ⟨hx, 0, none⟩) 4096 cx1, .slice (some ⟨hy, 0, none⟩) 4096 cy1]) (t := 26) (fr := (0, 0)) (heap_alloc_new wr.drew _)) (by intro u hu; simp at hu; rcases hu with rfl | rfl <;> rfl)
              (by omega) (by unfold maxLen; omega) (by omega) BD.size (wr.heap.size + 1) (by simp) ?_
          intro gg gc w1 hown1 hgrow hat hlt1
          have BE := BD.grown hgrow BD.size (fun j e => (Rc.owns_block OD.out j e).1)
          clear hgrow hat hlt1))
      have OE : Hid (w1.ownsRow u9.heap.size 26 1 (.slice (some ⟨gg, 0, none⟩) (2 + 2 * j + 2) gc) (2 + 2 * (j + 1)) (rcC ([(ha, 4096), (hb, 4096)] ++ duo X Y (j + 1)))) := by
        have e1 : rcC ([(ha, 4096), (hb, 4096)] ++ duo X Y (j + 1)) = rcC ([(ha, 4096), (hb, 4096)] ++ duo X Y j) ++ [.slice (some ⟨hx, 0, none⟩) 4096 cx1, .slice (some ⟨hy, 0, none⟩) 4096 cy1] := by
          rw [hts.out]
          simp [rcC]
        rw [e1]
        exact hown1
      clear hown1 OD BD
      go_wp2_with fail
      go_roundw
      case rel => exact ⟨j + 1, by omega, by push_cast; rfl, OE.out, BE⟩
      case measure => simp [intOf]; omega
    · have hke : j = k := by omega
      rw [hke] at OWN ⊢
      clear hke hlt hj
      obtain ⟨N, hN⟩ : ∃ N, N = 2 + 2 * k := ⟨_, rfl⟩
      have HN : Hid (N ≤ 400) := by show _ ≤ _; omega
      rw [← hN] at OWN ⊢
      have HNN : Hid (N = 2 + 2 * k) := hN
      clear hN
      have hS := HS9.out.below b
      obtain ⟨gz, hgz, lgz, ⟨LA, bxz⟩, hcz⟩ := owns_cells OWN.out (by rw [HNN.out]; omega)
      subst hgz
      have hall := hS.rows
      have hBS := hS.two.bel
      have lenA : ([(ha, 4096), (hb, 4096)] ++ duo X Y k).length = N := by
        rw [HNN.out, List.length_append, duo_length]
        simp
        omega
      generalize ([(ha, 4096), (hb, 4096)] ++ duo X Y k) = A at hall hcz lenA OWN
      have cAp := Rc.Apart.apart_at N gz cv (fun i => (A.getD i (0, 0)).1) (fun _ => 4096) (fun i => (A.getD i (0, 0)).2) wr HN.out
        ⟨LA, bxz, fun i hi => by
          have h1 := hcz i (by omega)
          rw [bxz.cell i] at h1
          rw [h1]
          simp [rcC, show i < A.length by omega]⟩
        (fun i hi => by
          obtain ⟨⟨ys, hr, _⟩, _⟩ := hall.rows _ (getD_mem (show i < A.length by omega))
          obtain ⟨cur, hb, _, _, hc, _⟩ := hr
          exact ⟨cur, hb, hc⟩)
        (fun i hi => by
          obtain ⟨⟨ys, hr, hy4⟩, _⟩ := hall.rows _ (getD_mem (show i < A.length by omega))
          obtain ⟨cur, hb, h1, h2, _⟩ := hr
          exact ⟨by rw [← hy4]; exact h1, h2, by omega⟩)
        (fun i hi q hq hne e => hne (getD_inj hall.apart (by omega) (by omega) e))
      have HF : Hid (∀ i, i < N → w.heap.size ≤ (A.getD i (0, 0)).1) := fun i hi => (hall.rows _ (getD_mem (show i < A.length by omega))).2.1
      clear hall hcz lenA bxz OWN HNN
      go_wp2_with fail
      refine Calls.mono cAp ?_
      rintro r w9 ⟨rfl, hbut⟩
      have B9 : Below w.heap.size w w9 := ⟨hbut.os.trans hBS.os, hbut.tape.trans hBS.tape, hbut.output.trans hBS.output, Nat.le_trans hBS.size hbut.size, fun i hi => (hbut.block i (Nat.lt_of_lt_of_le hi hBS.size) (fun q hq e => by have := HF.out q hq; omega)).trans (hBS.block i hi)⟩
      clear cAp hbut hS
      go_wp2_with fail
      refine Calls.mono (HA.out _) ?_
      rintro r w10 ⟨rfl, b10⟩
      have B10 := B9.trans (b10.mono B9.size)
      go_wp2_with fail
      go_ret
      exact ⟨rfl, B10⟩
end Go.Proofs.Ytdkaacjeogifdaa.H
