/-
  Sets: the plain ones (lists of pairs), and those in memory. SameInts.
-/
import Derived.Test.YtlbjalodjcajfaaGreatMem
namespace Go.Proofs.YtlbjalodjcajfaaGreat
open Go.RowKit Go.Maps

def ptr (g : Nat) : Value := .pointer (some ⟨g, 0, none⟩)
def mp (b : Nat) : Value := .map (some b)
def encI (x : Int) : Value := .int .i64 x
section
variable {α : Type}
/-- sets: what is read, what is written, what was written at each mark -/
structure SS (α : Type) where
  R : List (Int × Int)
  W : List (Int × α)
  M : List (List (Int × α))
def SS.read (S : SS α) (i v : Int) : Int × SS α :=
  if i < 0 ∨ 1024 ≤ i ∨ v < 0 then (2, S) else
  match gt S.R i with
  | some x => if x = v then (0, S) else (131, S)
  | none => if 256 ≤ S.R.length then (3, S) else (0, { S with R := S.R ++ [(i, v)] })
def SS.write (S : SS α) (i : Int) (x : α) : Int × SS α :=
  if i < 0 ∨ 1024 ≤ i then (2, S) else
  if (gt S.W i).isSome = false ∧ 256 ≤ S.W.length then (3, S) else (0, { S with W := pt S.W i x })
def SS.mark (S : SS α) : Int × SS α := if 8 ≤ S.M.length then (3, S) else (0, { S with M := S.M ++ [S.W] })
def SS.keep (S : SS α) : Int × SS α := if S.M.length = 0 then (136, S) else (0, { S with M := S.M.dropLast })
def SS.undo (S : SS α) : Int × SS α := if S.M.length = 0 then (136, S) else (0, { S with W := S.M.getLastD [], M := S.M.dropLast })
theorem pt_none (L : List (Int × α)) (k : Int) (v : α) (h : gt L k = none) : pt L k v = L ++ [(k, v)] := by
  unfold pt; rw [h, if_neg (by simp)]
theorem gt_not : ∀ (L : List (Int × α)) (k : Int) (v : α), k ∉ kys L → L.map (fun p => if p.1 = k then (k, v) else p) = L
  | [], _, _, _ => rfl
  | p :: L, k, v, h => by
    simp only [kys, List.map_cons, List.mem_cons, not_or] at h
    rw [List.map_cons, gt_not L k v h.2, if_neg (fun e => h.1 e.symm)]
theorem pt_same : ∀ (L : List (Int × α)) (k : Int) (v : α), (kys L).Nodup → gt L k = some v → pt L k v = L
  | L, k, v, hn, h => by
    unfold pt
    rw [h, if_pos (by rfl)]
    induction L with
    | nil => rfl
    | cons p L ih =>
      simp only [kys, List.map_cons, List.nodup_cons] at hn
      rw [gt_cons] at h
      rw [List.map_cons]
      by_cases e : p.1 = k
      · rw [if_pos e] at h ⊢
        injection h with h
        rw [gt_not L k v (e ▸ hn.1), ← h, ← e]
      · rw [if_neg e] at h ⊢
        rw [ih hn.2 h]

def Upd (F : Nat → Prop) (w w' : World) : Prop := w.heap.size ≤ w'.heap.size ∧ ∀ k, k < w.heap.size → ¬ F k → w'.heap[k]? = w.heap[k]?
theorem Upd.refl (F : Nat → Prop) (w : World) : Upd F w w := ⟨Nat.le_refl _, fun _ _ _ => rfl⟩
theorem Upd.trans {F F' : Nat → Prop} {a b c : World} (h : Upd F a b) (k : Upd F' b c) (hF : ∀ x, F' x → F x ∨ a.heap.size ≤ x) : Upd F a c :=
  ⟨Nat.le_trans h.1 k.1, fun x hx hn => (k.2 x (Nat.lt_of_lt_of_le hx h.1) (fun e => (hF x e).elim hn (fun h' => by omega))).trans (h.2 x hx hn)⟩
theorem Upd.grown {F : Nat → Prop} {w w' : World} {row : Option Nat} (h : w.grownBy w' row) (hr : ∀ k, row = some k → F k ∨ w.heap.size ≤ k) : Upd F w w' :=
  ⟨h.size, fun k hk hn => h.block k hk (fun e => (hr k e.symm).elim hn (fun h' => by omega))⟩
theorem Upd.alloc {F : Nat → Prop} {a b : World} (h : Upd F a b) (o : Obj) : Upd F a (b.alloc o) :=
  ⟨Nat.le_trans h.1 (by simp), fun x hx hn => (Below.heap_alloc b o x (Nat.lt_of_lt_of_le hx h.1)).trans (h.2 x hx hn)⟩
def grow (F : Nat → Prop) (w w' : World) : Nat → Prop := fun x => F x ∨ (w.heap.size ≤ x ∧ x < w'.heap.size)

structure IsA (enc : α → Value) (tS tM : TypeId) (w : World) (B g : Nat) (S : SS α) (F : Nat → Prop) (rb wb : Nat) (v : Value) (X : List (Nat × List (Int × α))) : Prop where
  box : Box w g #[ptr g, mp rb, mp wb, v] tS
  rd : MapL encI w rb S.R
  wr : MapL enc w wb S.W
  row : w.ownsRow B tM 1 v X.length (X.map (fun p => mp p.1))
  mks : ∀ p ∈ X, MapL enc w p.1 p.2
  em : S.M = X.map (·.2)
  nd : (rb :: wb :: X.map (·.1)).Nodup
  fg : F g
  fr : F rb
  fw : F wb
  fx : ∀ p ∈ X, F p.1
  fv : ∀ k, v.ownBlock = some k → F k
  fB : ∀ x, F x → B ≤ x ∧ x < w.heap.size
  dep : X.length ≤ 8
def IsS (enc : α → Value) (tS tM : TypeId) (w : World) (B g : Nat) (S : SS α) (F : Nat → Prop) : Prop := ∃ rb wb v X, IsA enc tS tM w B g S F rb wb v X
def To (enc : α → Value) (tS tM : TypeId) (w : World) (B g : Nat) (S : SS α) (F : Nat → Prop) (w' : World) : Prop :=
  IsS enc tS tM w' B g S (grow F w w') ∧ Below B w w' ∧ Upd F w w'
variable {enc : α → Value} {tS tM : TypeId}
theorem IsA.stay {w w' : World} {B g : Nat} {S : SS α} {F : Nat → Prop} {rb wb : Nat} {v : Value} {X : List (Nat × List (Int × α))} (h : IsA enc tS tM w B g S F rb wb v X) (hs : w.heap.size ≤ w'.heap.size) (hF : ∀ x, F x → w'.heap[x]? = w.heap[x]?) : IsA enc tS tM w' B g S F rb wb v X :=
  { h with
    box := (hF g h.fg).trans h.box
    rd := h.rd.stay (hF rb h.fr)
    wr := h.wr.stay (hF wb h.fw)
    row := by
      refine ⟨h.row.1, ?_⟩
      rcases h.row.2 with h1 | ⟨q, cap, cur, h1, hb, hg, r⟩
      · exact .inl h1
      · exact .inr ⟨q, cap, cur, h1, hb, (hF q (h.fv q (by rw [h1]; rfl))).trans hg, r⟩
    mks := fun p hp => (h.mks p hp).stay (hF _ (h.fx p hp))
    fB := fun x hx => ⟨(h.fB x hx).1, Nat.lt_of_lt_of_le (h.fB x hx).2 hs⟩ }
theorem IsS.stay {w w' : World} {B g : Nat} {S : SS α} {F : Nat → Prop} (h : IsS enc tS tM w B g S F) (hs : w.heap.size ≤ w'.heap.size) (hF : ∀ x, F x → w'.heap[x]? = w.heap[x]?) : IsS enc tS tM w' B g S F := by
  obtain ⟨rb, wb, v, X, h⟩ := h
  exact ⟨rb, wb, v, X, h.stay hs hF⟩
theorem IsS.fB {w : World} {B g : Nat} {S : SS α} {F : Nat → Prop} (h : IsS enc tS tM w B g S F) : ∀ x, F x → B ≤ x ∧ x < w.heap.size := by
  obtain ⟨rb, wb, v, X, h⟩ := h
  exact h.fB
theorem IsS.upd {w w' : World} {B g : Nat} {S : SS α} {F F' : Nat → Prop} (h : IsS enc tS tM w B g S F) (hu : Upd F' w w') (hF : ∀ x, F x → ¬ F' x) : IsS enc tS tM w' B g S F :=
  h.stay hu.1 (fun x hx => hu.2 x (h.fB x hx).2 (hF x hx))
theorem IsS.below {w w' : World} {B g : Nat} {S : SS α} {F : Nat → Prop} (h : IsS enc tS tM w B g S F) (hb : Below w.heap.size w w') : IsS enc tS tM w' B g S F :=
  h.stay hb.size (fun x hx => hb.block x (h.fB x hx).2)
theorem IsA.wide {w : World} {B g : Nat} {S : SS α} {F F' : Nat → Prop} {rb wb : Nat} {v : Value} {X : List (Nat × List (Int × α))} (h : IsA enc tS tM w B g S F rb wb v X) (hF : ∀ x, F x → F' x) (hB : ∀ x, F' x → B ≤ x ∧ x < w.heap.size) : IsA enc tS tM w B g S F' rb wb v X :=
  { h with fg := hF _ h.fg, fr := hF _ h.fr, fw := hF _ h.fw, fx := fun p hp => hF _ (h.fx p hp), fv := fun k hk => hF _ (h.fv k hk), fB := hB }
theorem IsS.wide {w : World} {B g : Nat} {S : SS α} {F F' : Nat → Prop} (h : IsS enc tS tM w B g S F) (hF : ∀ x, F x → F' x) (hB : ∀ x, F' x → B ≤ x ∧ x < w.heap.size) : IsS enc tS tM w B g S F' := by
  obtain ⟨rb, wb, v, X, h⟩ := h
  exact ⟨rb, wb, v, X, h.wide hF hB⟩
theorem To.refl {w : World} {B g : Nat} {S : SS α} {F : Nat → Prop} (h : IsS enc tS tM w B g S F) : To enc tS tM w B g S F w :=
  ⟨h.wide (fun x hx => .inl hx) (fun x hx => hx.elim (h.fB x) (fun h' => by omega)), Below.refl _ _, Upd.refl _ _⟩
theorem IsS.Ble {w : World} {B g : Nat} {S : SS α} {F : Nat → Prop} (h : IsS enc tS tM w B g S F) : B ≤ w.heap.size := by
  obtain ⟨rb, wb, v, X, h⟩ := h
  have := h.fB g h.fg
  omega
theorem grow_lt {F : Nat → Prop} {w w' : World} {B : Nat} (hF : ∀ x, F x → B ≤ x ∧ x < w.heap.size) (hB : B ≤ w.heap.size) (hs : w.heap.size ≤ w'.heap.size) : ∀ x, grow F w w' x → B ≤ x ∧ x < w'.heap.size := fun x hx => by
  rcases hx with hx | hx
  · have := hF x hx; omega
  · omega
/-- a map of one's own was written, the one with what is read -/
theorem IsA.reads {w w' : World} {B g : Nat} {S : SS α} {F : Nat → Prop} {rb wb : Nat} {v : Value} {X : List (Nat × List (Int × α))} (h : IsA enc tS tM w B g S F rb wb v X) {R : List (Int × Int)} (hg : w.grownBy w' (some rb)) (hm : MapL encI w' rb R) : To enc tS tM w B g { S with R := R } F w' := by
  have hn := List.nodup_cons.1 h.nd
  have st : ∀ x, x < w.heap.size → x ≠ rb → w'.heap[x]? = w.heap[x]? := fun x hx hne => hg.block x hx (fun e => hne (by injection e))
  have hB := h.fB g h.fg
  have hb : Below B w w' := (Below.refl B w).grown hg (by omega) (fun k e => by cases e; exact (h.fB _ h.fr).1)
  refine ⟨⟨rb, wb, v, X, ?_⟩, hb, Upd.grown hg (fun k e => by cases e; exact .inl h.fr)⟩
  exact { h with
    box := (st g h.box.lt (fun e => h.rd.noBox h.box e.symm)).trans h.box
    rd := hm
    wr := h.wr.stay (st wb h.wr.lt (fun e => hn.1 (by rw [← e]; exact List.mem_cons_self ..)))
    row := ownsRow_grown h.row hg (fun k hk e => by
      obtain ⟨cs, hc⟩ := ownsRow_box h.row k hk
      injection e with e
      exact h.rd.noBox hc e)
    mks := fun p hp => (h.mks p hp).stay (st _ (h.mks p hp).lt (fun e => hn.1 (by rw [← e]; exact List.mem_cons_of_mem _ (List.mem_map_of_mem (f := (·.1)) hp))))
    fg := .inl h.fg, fr := .inl h.fr, fw := .inl h.fw, fx := fun p hp => .inl (h.fx p hp), fv := fun k hk => .inl (h.fv k hk)
    fB := grow_lt h.fB (by omega) hg.size }
theorem IsA.writes {w w' : World} {B g : Nat} {S : SS α} {F : Nat → Prop} {rb wb : Nat} {v : Value} {X : List (Nat × List (Int × α))} (h : IsA enc tS tM w B g S F rb wb v X) {W : List (Int × α)} (hg : w.grownBy w' (some wb)) (hm : MapL enc w' wb W) : To enc tS tM w B g { S with W := W } F w' := by
  have hn := List.nodup_cons.1 h.nd
  have hn2 := List.nodup_cons.1 hn.2
  have st : ∀ x, x < w.heap.size → x ≠ wb → w'.heap[x]? = w.heap[x]? := fun x hx hne => hg.block x hx (fun e => hne (by injection e))
  have hB := h.fB g h.fg
  have hb : Below B w w' := (Below.refl B w).grown hg (by omega) (fun k e => by cases e; exact (h.fB _ h.fw).1)
  refine ⟨⟨rb, wb, v, X, ?_⟩, hb, Upd.grown hg (fun k e => by cases e; exact .inl h.fw)⟩
  exact { h with
    box := (st g h.box.lt (fun e => h.wr.noBox h.box e.symm)).trans h.box
    rd := h.rd.stay (st rb h.rd.lt (fun e => hn.1 (by rw [e]; exact List.mem_cons_self ..)))
    wr := hm
    row := ownsRow_grown h.row hg (fun k hk e => by
      obtain ⟨cs, hc⟩ := ownsRow_box h.row k hk
      injection e with e
      exact h.wr.noBox hc e)
    mks := fun p hp => (h.mks p hp).stay (st _ (h.mks p hp).lt (fun e => hn2.1 (by rw [← e]; exact List.mem_map_of_mem (f := (·.1)) hp)))
    fg := .inl h.fg, fr := .inl h.fr, fw := .inl h.fw, fx := fun p hp => .inl (h.fx p hp), fv := fun k hk => .inl (h.fv k hk)
    fB := grow_lt h.fB (by omega) hg.size }
end
end Go.Proofs.YtlbjalodjcajfaaGreat
namespace Go.Proofs.YtlbjalodjcajfaaGreat
open Go.RowKit
def zcs (l : List Int) : List Value := l.map encI
theorem infoI : (Tryz.prog.info? 3).map (fun i => (i.zero, i.size, i.bytes)) = some (some (.int .i64 0), 1, 8) := by kernel_rfl
end Go.Proofs.YtlbjalodjcajfaaGreat
