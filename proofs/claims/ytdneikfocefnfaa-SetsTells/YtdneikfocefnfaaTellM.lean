/-
  The program's sets and the document's, side by side.
-/
import Derived.Test.YtdneikfocefnfaaRfReads
import Derived.Test.YtdneikfocefnfaaRfKeep
import Derived.Test.YtdneikfocefnfaaAwake
import Derived.Test.YtdneikfocefnfaaArgs
namespace Go.Proofs.Ytdneikfocefnfaa
open Go.RowKit
def Mx (u : World) (B g r : Nat) (S T : SS Int) : Prop := ∃ F1 F2 cs, IsS encI 86 76 u B g S F1 ∧ IsR u B r 0 30 T F2 cs ∧ ∀ x, F1 x → ¬ F2 x
/-- .. and a call beside them -/
def Mb (u : World) (B g r : Nat) (S T : SS Int) (b : Nat) (c0 : Array Value) : Prop := ∃ F1 F2 cs, IsS encI 86 76 u B g S F1 ∧ IsR u B r 0 30 T F2 cs ∧ (∀ x, F1 x → ¬ F2 x) ∧ Box u b c0 32 ∧ ¬ F1 b ∧ ¬ F2 b
section
variable {u u' : World} {B g r b : Nat} {S T : SS Int} {c0 : Array Value}
theorem Mb.mx (h : Mb u B g r S T b c0) : Mx u B g r S T := by
  obtain ⟨F1, F2, cs, h1, h2, h3, _⟩ := h
  exact ⟨F1, F2, cs, h1, h2, h3⟩
theorem Mx.hB (h : Mx u B g r S T) : B ≤ u.heap.size := by
  obtain ⟨F1, F2, cs, h1, h2, h3⟩ := h
  exact h1.Ble
theorem Mx.below (h : Mx u B g r S T) (hb : Below u.heap.size u u') : Mx u' B g r S T := by
  obtain ⟨F1, F2, cs, h1, h2, h3⟩ := h
  exact ⟨F1, F2, cs, h1.below hb, h2.below hb, h3⟩
theorem Mb.below (h : Mb u B g r S T b c0) (hb : Below u.heap.size u u') : Mb u' B g r S T b c0 := by
  obtain ⟨F1, F2, cs, h1, h2, h3, h4, h5⟩ := h
  exact ⟨F1, F2, cs, h1.below hb, h2.below hb, h3, h4.below hb h4.lt, h5⟩
theorem Mb.drew (h : Mb u B g r S T b c0) (q : Nat) : Mb (u.drewN q) B g r S T b c0 := h.below ⟨rfl, rfl, rfl, Nat.le_refl _, fun _ _ => rfl⟩
theorem Mx.box (h : Mx u B g r S T) (c0 : Array Value) : Mb (u.alloc (.cells c0 32)) B g r S T u.heap.size c0 := by
  obtain ⟨F1, F2, cs, h1, h2, h3⟩ := h
  have hb := (Below.refl u.heap.size u).alloc (Nat.le_refl _) (.cells c0 32)
  exact ⟨F1, F2, cs, h1.below hb, h2.below hb, h3, Box.new u c0 32, fun f => by have := (h1.fB _ f).2; omega, fun f => by have := (h2.fB _ f).2; omega⟩
theorem Mb.cell (h : Mb u B g r S T b c0) (j : Nat) : u.cell? ⟨b, j, none⟩ = c0[j]? := by
  obtain ⟨F1, F2, cs, h1, h2, h3, h4, h5⟩ := h
  exact h4.cell j
theorem Mb.gd (h : Mb u B g r S T b c0) : Gd S.R ∧ Gd S.W := by
  obtain ⟨F1, F2, cs, ⟨rb, wb, v, X, h1⟩, _⟩ := h
  exact ⟨h1.rd.gd, h1.wr.gd⟩
theorem Mb.one {S' : SS Int} {F1 F2 : Nat → Prop} {cs : Array Value} (h2 : IsR u B r 0 30 T F2 cs) (h3 : ∀ x, F1 x → ¬ F2 x) (h4 : Box u b c0 32) (h5 : ¬ F1 b) (h6 : ¬ F2 b) (ht : To encI 86 76 u B g S' F1 u') : Mb u' B g r S' T b c0 ∧ Below B u u' := by
  refine ⟨⟨grow F1 u u', F2, cs, ht.1, h2.upd ht.2.2 (fun x hx hf => h3 x hf hx), fun x hx hx2 => ?_, (ht.2.2.2 b h4.lt h5).trans h4, fun hg => hg.elim h5 (fun e => by have := h4.lt; omega), h6⟩, ht.2.1⟩
  rcases hx with hx | hx
  · exact h3 x hx hx2
  · have := (h2.fB x hx2).2
    omega
theorem Mb.two {T' : SS Int} {F1 F2 : Nat → Prop} {cs : Array Value} (h1 : IsS encI 86 76 u B g S F1) (h3 : ∀ x, F1 x → ¬ F2 x) (h4 : Box u b c0 32) (h5 : ¬ F1 b) (h6 : ¬ F2 b) (ht : ToR u B r 0 30 T' F2 cs u') : Mb u' B g r S T' b c0 ∧ Below B u u' := by
  obtain ⟨cs', hi, _⟩ := ht.is
  refine ⟨⟨F1, grow F2 u u', cs', h1.upd ht.upd (fun x hx hf => h3 x hx hf), hi, fun x hx hx2 => ?_, (ht.upd.2 b h4.lt h6).trans h4, h5, fun hg => hg.elim h6 (fun e => by have := h4.lt; omega)⟩, ht.bel⟩
  rcases hx2 with hx2 | hx2
  · exact h3 x hx hx2
  · have := (h1.fB x hx).2
    omega
theorem Mb.read1 (h : Mb u B g r S T b c0) (i x : Int) : Calls Try.prog 8 #[ptr g, .int .i64 i, .int .i64 x] u fun e u' => e = .returned (.int .i64 (S.read i x).1) ∧ Mb u' B g r (S.read i x).2 T b c0 ∧ Below B u u' := by
  obtain ⟨F1, F2, cs, h1, h2, h3, h4, h5, h6⟩ := h
  exact (read_at h1 i x).mono fun e u' ⟨a, ht⟩ => ⟨a, Mb.one h2 h3 h4 h5 h6 ht⟩
theorem Mb.read2 (h : Mb u B g r S T b c0) (i x : Int) : Calls Try.prog 9 #[ptr r, .int .i64 i, .int .i64 x] u fun e u' => e = .returned (.int .i64 (T.read i x).1) ∧ Mb u' B g r S (T.read i x).2 b c0 ∧ Below B u u' := by
  obtain ⟨F1, F2, cs, h1, h2, h3, h4, h5, h6⟩ := h
  exact (qread_at h2 i x).mono fun e u' ⟨a, ht⟩ => ⟨a, Mb.two h1 h3 h4 h5 h6 ht⟩
theorem Mb.write1 (h : Mb u B g r S T b c0) (i x : Int) : Calls Try.prog 10 #[ptr g, .int .i64 i, .int .i64 x] u fun e u' => e = .returned (.int .i64 (S.write i x).1) ∧ Mb u' B g r (S.write i x).2 T b c0 ∧ Below B u u' := by
  obtain ⟨F1, F2, cs, h1, h2, h3, h4, h5, h6⟩ := h
  exact (write_at h1 i x).mono fun e u' ⟨a, ht⟩ => ⟨a, Mb.one h2 h3 h4 h5 h6 ht⟩
theorem Mb.write2 (h : Mb u B g r S T b c0) (hn : (kys T.W).Nodup) (i x : Int) : Calls Try.prog 11 #[ptr r, .int .i64 i, .int .i64 x] u fun e u' => e = .returned (.int .i64 (T.write i x).1) ∧ Mb u' B g r S (T.write i x).2 b c0 ∧ Below B u u' := by
  obtain ⟨F1, F2, cs, h1, h2, h3, h4, h5, h6⟩ := h
  exact (qwrite_at h2 hn i x).mono fun e u' ⟨a, ht⟩ => ⟨a, Mb.two h1 h3 h4 h5 h6 ht⟩
theorem Mb.mark1 (h : Mb u B g r S T b c0) : Calls Try.prog 12 #[ptr g] u fun e u' => e = .returned (.int .i64 S.mark.1) ∧ Mb u' B g r S.mark.2 T b c0 ∧ Below B u u' := by
  obtain ⟨F1, F2, cs, h1, h2, h3, h4, h5, h6⟩ := h
  exact (mark_at h1).mono fun e u' ⟨a, ht⟩ => ⟨a, Mb.one h2 h3 h4 h5 h6 ht⟩
theorem Mb.mark2 (h : Mb u B g r S T b c0) : Calls Try.prog 13 #[ptr r] u fun e u' => e = .returned (.int .i64 T.mark.1) ∧ Mb u' B g r S T.mark.2 b c0 ∧ Below B u u' := by
  obtain ⟨F1, F2, cs, h1, h2, h3, h4, h5, h6⟩ := h
  exact (qmark_at h2).mono fun e u' ⟨a, ht⟩ => ⟨a, Mb.two h1 h3 h4 h5 h6 ht⟩
theorem Mb.keep1 (h : Mb u B g r S T b c0) : Calls Try.prog 14 #[ptr g] u fun e u' => e = .returned (.int .i64 S.keep.1) ∧ Mb u' B g r S.keep.2 T b c0 ∧ Below B u u' := by
  obtain ⟨F1, F2, cs, h1, h2, h3, h4, h5, h6⟩ := h
  exact (keep_at h1).mono fun e u' ⟨a, ht⟩ => ⟨a, Mb.one h2 h3 h4 h5 h6 ht⟩
theorem Mb.keep2 (h : Mb u B g r S T b c0) : Calls Try.prog 15 #[ptr r] u fun e u' => e = .returned (.int .i64 T.keep.1) ∧ Mb u' B g r S T.keep.2 b c0 ∧ Below B u u' := by
  obtain ⟨F1, F2, cs, h1, h2, h3, h4, h5, h6⟩ := h
  exact (qkeep_at h2).mono fun e u' ⟨a, ht⟩ => ⟨a, Mb.two h1 h3 h4 h5 h6 ht⟩
theorem Mb.undo1 (h : Mb u B g r S T b c0) : Calls Try.prog 16 #[ptr g] u fun e u' => e = .returned (.int .i64 S.undo.1) ∧ Mb u' B g r S.undo.2 T b c0 ∧ Below B u u' := by
  obtain ⟨F1, F2, cs, h1, h2, h3, h4, h5, h6⟩ := h
  exact (undo_at h1).mono fun e u' ⟨a, ht⟩ => ⟨a, Mb.one h2 h3 h4 h5 h6 ht⟩
theorem Mb.undo2 (h : Mb u B g r S T b c0) : Calls Try.prog 17 #[ptr r] u fun e u' => e = .returned (.int .i64 T.undo.1) ∧ Mb u' B g r S T.undo.2 b c0 ∧ Below B u u' := by
  obtain ⟨F1, F2, cs, h1, h2, h3, h4, h5, h6⟩ := h
  exact (qundo_at h2).mono fun e u' ⟨a, ht⟩ => ⟨a, Mb.two h1 h3 h4 h5 h6 ht⟩
theorem Mb.value1 (h : Mb u B g r S T b c0) (i : Int) (hi : (Lit.int .i64 i).wf = true) : Calls Try.prog 20 #[ptr g, .int .i64 i] u fun e u' => e = .returned (.tuple #[.int .i64 ((gt S.W i).getD 0), .bool (gt S.W i).isSome]) ∧ u' = u := by
  obtain ⟨F1, F2, cs, h1, h2, h3, h4, h5, h6⟩ := h
  exact value_at h1 i hi
theorem Mb.value2 (h : Mb u B g r S T b c0) (i : Int) : Calls Try.prog 21 #[ptr r, .int .i64 i] u fun e u' => e = .returned (.tuple #[.int .i64 ((gt T.W i).getD 0), .bool (gt T.W i).isSome]) ∧ u' = u := by
  obtain ⟨F1, F2, cs, h1, ⟨vR, vW, vM, Y, h2⟩, h3, h4, h5, h6⟩ := h
  exact qvalue_at (o := 0) h2.box h2.cW h2.rW h2.lW i
theorem Mb.seen1 (h : Mb u B g r S T b c0) (i : Int) (hi : (Lit.int .i64 i).wf = true) : Calls Try.prog 22 #[ptr g, .int .i64 i] u fun e u' => e = .returned (.tuple #[.int .i64 ((gt S.R i).getD 0), .bool (gt S.R i).isSome]) ∧ u' = u := by
  obtain ⟨F1, F2, cs, h1, h2, h3, h4, h5, h6⟩ := h
  exact seen_at h1 i hi
theorem Mb.seen2 (h : Mb u B g r S T b c0) (i : Int) : Calls Try.prog 23 #[ptr r, .int .i64 i] u fun e u' => e = .returned (.tuple #[.int .i64 ((gt T.R i).getD 0), .bool (gt T.R i).isSome]) ∧ u' = u := by
  obtain ⟨F1, F2, cs, h1, ⟨vR, vW, vM, Y, h2⟩, h3, h4, h5, h6⟩ := h
  exact qseen_at (o := 0) h2.box h2.cR h2.rR h2.lR i
theorem Mb.depth1 (h : Mb u B g r S T b c0) : Calls Try.prog 24 #[ptr g] u fun e u' => e = .returned (.int .i64 (S.M.length : Int)) ∧ u' = u := by
  obtain ⟨F1, F2, cs, h1, h2, h3, h4, h5, h6⟩ := h
  exact depth_at h1
theorem Mb.marks2 (h : Mb u B g r S T b c0) : ∃ a c, u.cell? ⟨r, 2, none⟩ = some (.slice a T.M.length c) := by
  obtain ⟨F1, F2, cs, h1, ⟨vR, vW, vM, Y, h2⟩, h3, h4, h5, h6⟩ := h
  obtain ⟨a, c, e⟩ := ownsRow_slice h2.rM
  rw [h2.lM] at e
  exact ⟨a, c, by rw [← e]; exact (h2.box.cell 2).trans h2.cM⟩
theorem Mx.reads1 (h : Mx u B g r S T) : Calls Try.prog 18 #[ptr g] u fun e w' => ∃ v, e = .returned v ∧ w'.ownsRow u.heap.size 3 1 v S.R.length (zcs (srt (kys S.R))) ∧ Below u.heap.size u w' := by
  obtain ⟨F1, F2, cs, h1, h2, h3⟩ := h
  exact reads_at h1
theorem Mx.writes1 (h : Mx u B g r S T) : Calls Try.prog 19 #[ptr g] u fun e w' => ∃ v, e = .returned v ∧ w'.ownsRow u.heap.size 3 1 v S.W.length (zcs (srt (kys S.W))) ∧ Below u.heap.size u w' := by
  obtain ⟨F1, F2, cs, h1, h2, h3⟩ := h
  exact writes_at h1
theorem Mx.reads2 (h : Mx u B g r S T) : Calls Try.prog 26 #[ptr r] u fun e w' => ∃ v, e = .returned v ∧ w'.ownsRow u.heap.size 3 1 v T.R.length (zcs (srt (kys T.R))) ∧ Below u.heap.size u w' := by
  obtain ⟨F1, F2, cs, h1, h2, h3⟩ := h
  exact qreads_at h2
theorem Mx.writes2 (h : Mx u B g r S T) : Calls Try.prog 27 #[ptr r] u fun e w' => ∃ v, e = .returned v ∧ w'.ownsRow u.heap.size 3 1 v T.W.length (zcs (srt (kys T.W))) ∧ Below u.heap.size u w' := by
  obtain ⟨F1, F2, cs, h1, h2, h3⟩ := h
  exact qwrites_at h2
theorem Mx.lens (h : Mx u B g r S T) : S.R.length ≤ 256 ∧ S.W.length ≤ 256 ∧ S.M.length ≤ 8 := by
  obtain ⟨F1, F2, cs, ⟨rb, wb, v, X, h1⟩, _⟩ := h
  exact ⟨h1.rd.gd.le, h1.wr.gd.le, by have := h1.dep; rw [h1.em]; simpa using this⟩
end
/-- both are new -/
theorem mx_new {w u : World} {g : Nat} (h1 : IsS encI 86 76 u w.heap.size g ⟨[], [], []⟩ (fun x => w.heap.size ≤ x ∧ x < u.heap.size)) (hb : Below w.heap.size w u) : Mx (u.alloc (.cells #[.slice none 0 0, .slice none 0 0, .slice none 0 0] 30)) w.heap.size g u.heap.size ⟨[], [], []⟩ ⟨[], [], []⟩ := by
  have hs := hb.size
  have bb := (Below.refl u.heap.size u).alloc (Nat.le_refl _) (.cells #[.slice none 0 0, .slice none 0 0, .slice none 0 0] 30)
  refine ⟨_, fun x => x = u.heap.size, #[.slice none 0 0, .slice none 0 0, .slice none 0 0], h1.below bb, ⟨.slice none 0 0, .slice none 0 0, .slice none 0 0, [], ?_⟩, fun x hx e => by omega⟩
  exact
    { box := Box.new u _ 30
      cR := rfl
      cW := rfl
      cM := rfl
      rR := World.ownsRow_nil _ _ _ _
      rW := World.ownsRow_nil _ _ _ _
      rM := World.ownsRow_nil _ _ _ _
      lM := rfl
      rY := fun k hk => by simp at hk
      ap := by simp
      fr := rfl
      fR := fun x hx => by cases hx
      fW := fun x hx => by cases hx
      fM := fun x hx => by cases hx
      fY := fun y hy => by cases hy
      fB := fun x hx => by subst hx; simp; omega
      lR := by simp
      lW := by simp
      lN := by simp
      lL := fun L hL => by cases hL
      ty := by decide }
end Go.Proofs.Ytdneikfocefnfaa
