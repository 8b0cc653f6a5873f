/-
  A watch in memory: its three cells, a map of waiters, a row of reads of each.
-/
import Derived.Test.YtafiopjgegmfoaaGreatNScp
import Derived.Test.YtafiopjgegmfoaaGreatSame
import Derived.Test.YtafiopjgegmfoaaGreatCNone
namespace Go.Proofs.YtafiopjgegmfoaaGreat.W
open Go.RowKit Go.Maps Go.Proofs.YtafiopjgegmfoaaGreat Go.Proofs.YtafiopjgegmfoaaGreat.C Go.Proofs.YtafiopjgegmfoaaGreat.T
/-! ### maps: what is struck; the keys beside the values -/
theorem mapI_drop {w : World} {b n : Nat} {m : Int → Option Value} (h : MapI w b n m) (t e : TypeId) (hu : Tryz.prog.underlying t = some (.map 3 e)) (k : Int) (hk : (Lit.int .i64 k).wf = true) (ty : TypeId) :
    ∃ w', (Builtin.delete_ #[t, 3] ty #[.map (some b), .int .i64 k]).run Tryz.prog w = .ok (.tuple #[]) w' ∧ MapI w' b n (fun j => if j = k then none else m j) ∧ w.grownBy w' (some b) := by
  obtain ⟨D, h1, h2, h3⟩ := h
  obtain ⟨w', r, o, g⟩ := h1.drop keyed3 hu (key3 hk) ty
  refine ⟨w', r, ⟨_, o, fun j hj => ?_, fun j hj => ?_⟩, g.grown⟩
  · dsimp only at hj
    by_cases e : j = k
    · rw [e]; exact hk
    · rw [if_neg e] at hj; exact h2 j hj
  · dsimp only
    by_cases e : j = k
    · subst e
      rw [if_pos rfl]
      exact ⟨has_del_same, fun z => atKey_del_same z⟩
    · have ne : Lit.int .i64 j ≠ Lit.int .i64 k := fun h => e (by injection h)
      rw [if_neg e, has_del_other ne]
      exact ⟨(h3 j hj).1, fun z => (atKey_del_other ne z).trans ((h3 j hj).2 z)⟩
theorem mapI_keys {w : World} {b n : Nat} {m : Int → Option Value} (h : MapI w b n m) :
    ∃ D : DataW Value, w.ownsMap Tryz.prog 3 rV b n D ∧ (intKeys D).Nodup ∧ (∀ x, x ∈ intKeys D ↔ (m x).isSome = true) ∧ ∀ x c, (Lit.int .i64 x).wf = true → (∀ z, D.atKey (.int .i64 x) z = .held c) → m x = some c := by
  obtain ⟨D', g1, g2, g3⟩ := h.keys
  obtain ⟨D, h1, h2, h3⟩ := h
  have e : D = D' := by
    obtain ⟨es, cl, e1, e2, e3, e4⟩ := h1
    obtain ⟨es', cl', f1, f2, f3, f4⟩ := g1
    rw [e1] at f1
    injection f1 with f1
    injection f1 with f1 f1'
    subst f1
    rw [e4, f4]
  subst e
  refine ⟨D, h1, g2, g3, fun x c hw hz => ?_⟩
  have h4 := (h3 x hw).2
  cases hm : m x with
  | none =>
    have a1 := (hz (.held (.bool true))).symm.trans (h4 (.held (.bool true)))
    have a2 := (hz (.held (.bool false))).symm.trans (h4 (.held (.bool false)))
    rw [hm] at a1 a2
    simp at a1 a2
    rw [a1] at a2
    cases a2
  | some y =>
    have a1 := (hz (.held c)).symm.trans (h4 (.held c))
    rw [hm] at a1
    simp at a1
    rw [a1]
/-! ### a row of reads -/
abbrev Rds := List (Int × Int)
abbrev Wts := List (Int × (Value × Rds))
def rcs (l : Rds) : List Value := l.flatMap fun p => [.int .i64 p.1, .int .i64 p.2]
theorem rcs_snoc (l : Rds) (p : Int × Int) : rcs (l ++ [p]) = rcs l ++ [.int .i64 p.1, .int .i64 p.2] := by simp [rcs]
theorem rcs_get {l : Rds} {j : Nat} {p : Int × Int} (h : l[j]? = some p) : (rcs l)[j * 2]? = some (.int .i64 p.1) ∧ (rcs l)[j * 2 + 1]? = some (.int .i64 p.2) := by
  induction l generalizing j with
  | nil => simp at h
  | cons x l ih =>
    have e : rcs (x :: l) = .int .i64 x.1 :: .int .i64 x.2 :: rcs l := rfl
    cases j with
    | zero => simp at h; subst h; rw [e]; exact ⟨rfl, rfl⟩
    | succ j =>
      have := ih (j := j) (by simpa using h)
      rw [e, show (j + 1) * 2 = j * 2 + 1 + 1 by omega, show j * 2 + 1 + 1 + 1 = (j * 2 + 1) + 1 + 1 by omega]
      simpa only [List.getElem?_cons_succ] using this
theorem row2_cell {w : World} {B : Nat} {v : Value} {l : Rds} (h : w.ownsRow B 93 2 v l.length (rcs l)) {j : Nat} {p : Int × Int} (hj : l[j]? = some p) : ∃ g cap, v = .slice (some ⟨g, 0, none⟩) l.length cap ∧ w.cell? ⟨g, j * 2, none⟩ = some (.int .i64 p.1) ∧ w.cell? ⟨g, j * 2 + 1, none⟩ = some (.int .i64 p.2) := by
  have hl : j < l.length := (List.getElem?_eq_some_iff.1 hj).1
  rcases h.2 with ⟨rfl, h0⟩ | ⟨g, cap, cur, rfl, hb, hg, _, _, _, ht⟩
  · omega
  · obtain ⟨a, b⟩ := rcs_get hj
    refine ⟨g, cap, rfl, ?_, ?_⟩
    · rw [Box.cell hg, ← a, ← ht, List.getElem?_take, if_pos (by omega)]
      simp
    · rw [Box.cell hg, ← b, ← ht, List.getElem?_take, if_pos (by omega)]
      simp
/-! ### a watch -/
structure IsW (u : World) (B wb m : Nat) (P : Wts) (H : Nat → Prop) : Prop where
  nd : (kys P).Nodup
  wf : ∀ k ∈ kys P, (Lit.int .i64 k).wf = true
  le : P.length ≤ 64
  hw : H wb
  lo : ∀ y, H y → B ≤ y ∧ y < u.heap.size
  box : ∃ mb, Box u wb #[ptr wb, ptr m, .map (some mb)] 32 ∧ MapI u mb P.length (fun k => (gt P k).map (·.1)) ∧ H mb
  rows : ∀ p ∈ P, u.ownsRow B 93 2 p.2.1 p.2.2.length (rcs p.2.2) ∧ p.2.2.length ≤ 256 ∧ ∀ k, p.2.1.ownBlock = some k → H k
section
variable {u u' : World} {B wb m : Nat} {P : Wts} {H H' : Nat → Prop}
theorem row_stay {n : Nat} {e : TypeId} {z : Nat} {v : Value} {xs : List Value} (h : u.ownsRow B e z v n xs) (hs : ∀ k, v.ownBlock = some k → u'.heap[k]? = u.heap[k]?) : u'.ownsRow B e z v n xs := by
  refine ⟨h.1, ?_⟩
  rcases h.2 with h1 | ⟨g, cap, cu, e1, hb, hg, r⟩
  · exact .inl h1
  · exact .inr ⟨g, cap, cu, e1, hb, (hs g (by rw [e1]; rfl)).trans hg, r⟩
theorem IsW.stay (h : IsW u B wb m P H) (hs : u.heap.size ≤ u'.heap.size) (hH : ∀ y, H y → u'.heap[y]? = u.heap[y]?) : IsW u' B wb m P H := by
  obtain ⟨mb, b1, b2, b3⟩ := h.box
  exact { h with
    lo := fun y hy => ⟨(h.lo y hy).1, Nat.lt_of_lt_of_le (h.lo y hy).2 hs⟩
    box := ⟨mb, (hH _ h.hw).trans b1, b2.stay (hH _ b3), b3⟩
    rows := fun p hp => ⟨row_stay (h.rows p hp).1 (fun k hk => hH k ((h.rows p hp).2.2 k hk)), (h.rows p hp).2⟩ }
theorem IsW.upd {F : Nat → Prop} (h : IsW u B wb m P H) (hu : Upd F u u') (hF : ∀ y, H y → ¬ F y) : IsW u' B wb m P H := h.stay hu.1 (fun y hy => hu.2 y (h.lo y hy).2 (hF y hy))
theorem IsW.below (h : IsW u B wb m P H) (hb : Below u.heap.size u u') : IsW u' B wb m P H := h.stay hb.size (fun y hy => hb.block y (h.lo y hy).2)
theorem IsW.wide (h : IsW u B wb m P H) (hH : ∀ y, H y → H' y) (hB : ∀ y, H' y → B ≤ y ∧ y < u.heap.size) : IsW u B wb m P H' := by
  obtain ⟨mb, b1, b2, b3⟩ := h.box
  exact { h with hw := hH _ h.hw, lo := hB, box := ⟨mb, b1, b2, hH _ b3⟩, rows := fun p hp => ⟨(h.rows p hp).1, (h.rows p hp).2.1, fun k hk => hH k ((h.rows p hp).2.2 k hk)⟩ }
theorem gt_of_mem {α : Type} {L : List (Int × α)} (hn : (kys L).Nodup) {p : Int × α} (hp : p ∈ L) : gt L p.1 = some p.2 := by
  induction L with
  | nil => cases hp
  | cons q L ih =>
    rw [gt_cons]
    have hn' : q.1 ∉ kys L ∧ (kys L).Nodup := List.nodup_cons.1 hn
    rcases List.mem_cons.1 hp with rfl | hp
    · rw [if_pos rfl]
    · rw [if_neg (fun e => hn'.1 (by rw [e]; exact List.mem_map_of_mem hp)), ih hn'.2 hp]
theorem mem_of_gt {α : Type} {L : List (Int × α)} {k : Int} {x : α} (h : gt L k = some x) : (k, x) ∈ L := by
  induction L with
  | nil => cases h
  | cons q L ih =>
    rw [gt_cons] at h
    split at h
    · rename_i e
      injection h with h
      subst e h
      exact List.mem_cons_self ..
    · exact List.mem_cons_of_mem _ (ih h)
/-! ### Made -/
theorem infoW : (Tryz.prog.info? 32).map (fun i => (i.zero.isSome, i.size)) = some (true, 3) := by kernel_rfl
theorem pointW : Tryz.prog.underlying 22 = some (.pointer 32) := by kernel_rfl
theorem eqlSelf (g : Nat) (w : World) : (binOp .eql 22 (.pointer (some ⟨g, 0, none⟩)) (.pointer (some ⟨g, 0, none⟩))).run Tryz.prog w = .ok (.bool true) w := by
  cases h : Tryz.prog.info? 32 with
  | none => have := infoW; rw [h] at this; cases this
  | some i => exact run_eql_ptr_same w ⟨g, 0, none⟩ pointW h
theorem eqlNone (g : Nat) (w : World) : (binOp .eql 22 (.pointer none) (.pointer (some ⟨g, 0, none⟩))).run Tryz.prog w = .ok (.bool false) w := by
  have h : ∀ d : Nat, (Op.equalIn (d + 1) 22 (.pointer none) (.pointer (some ⟨g, 0, none⟩))).run Tryz.prog w = .ok false w := fun d => by
    simp [Op.equalIn, run_underlying pointW]
  simp only [binOp]
  simp [Op.equal, Op.maxDepth, h]
/-- no watch -/
def NoW (w : World) (p : Option Addr) : Prop := Calls Tryz.prog 10 #[.pointer p] w fun r w' => r = .returned (.bool false) ∧ w' = w
theorem noW_nil (w : World) : NoW w none := by
  unfold NoW
  go_enter Tryz.func10, Tryz.ntmps10
  go_wp2
  go_ret
  simp
theorem noW_zero {w : World} {g : Nat} {cs : Array Value} (h : Box w g cs 32) (hc : cs[0]? = some (.pointer none)) : NoW w (some ⟨g, 0, none⟩) := by
  have c0 : w.cell? ⟨g, 0, none⟩ = some (.pointer none) := (h.cell 0).trans hc
  have he := eqlNone g
  unfold NoW
  go_enter Tryz.func10, Tryz.ntmps10
  go_wp2
  go_ret
  simp
theorem made_at {w : World} {g : Nat} {a b : Value} (h : Box w g #[ptr g, a, b] 32) : Calls Tryz.prog 10 #[ptr g] w fun r w' => r = .returned (.bool true) ∧ w' = w := by
  have c0 : w.cell? ⟨g, 0, none⟩ = some (ptr g) := h.cell 0
  clear h
  unfold ptr at *
  have he := eqlSelf g
  go_enter Tryz.func10, Tryz.ntmps10
  go_wp2
  go_ret
  simp
end
end Go.Proofs.YtafiopjgegmfoaaGreat.W
