/-
  leave.
-/
import Derived.Test.YtafiopjgegmfoaaDel
namespace Go.Proofs.Ytafiopjgegmfoaa
open Go.RowKit Go.Maps

theorem IsA.undone {α : Type} {enc : α → Value} {tS tM : TypeId} {w w' : World} {B g : Nat} {S0 : SS α} {F : Nat → Prop} {rb wb b : Nat} {v : Value} {X : List (Nat × List (Int × α))} {L : List (Int × α)} (h : IsA enc tS tM w' B g { S0 with M := S0.M.dropLast } (grow F w w') rb wb v X) (hm : MapL enc w' b L) (hl : S0.M.getLastD [] = L) (hn : b ∉ rb :: wb :: X.map (·.1)) (hF : F b) (hb : Below B w w') (hu : Upd F w w') (ht : tS ≠ tM) :
    To enc tS tM w B g { S0 with W := S0.M.getLastD [], M := S0.M.dropLast } F (w'.setCell ⟨g, 2, none⟩ (.map (some b))) := by
  rw [hl]
  have hg0 := h.fB g h.fg
  have hgF : F g ∨ w.heap.size ≤ g := h.fg.imp id (fun h => h.1)
  have x9 : Box (w'.setCell ⟨g, 2, none⟩ (.map (some b))) g #[ptr g, mp rb, mp b, v] tS := h.box.store 2 _
  have s9 : (w'.setCell ⟨g, 2, none⟩ (.map (some b))).heap.size = w'.heap.size := by simp
  have k9 : ∀ k, k ≠ g → (w'.setCell ⟨g, 2, none⟩ (.map (some b))).heap[k]? = w'.heap[k]? := fun k hk => heap_setCell_other w' ⟨g, 2, none⟩ k _ hk
  have own9 : (w'.setCell ⟨g, 2, none⟩ (.map (some b))).ownsRow B tM 1 v X.length (X.map (fun p => mp p.1)) := ownsRow_grown h.row (grown_store w' g 2 _) (fun k hk e => by
    injection e with e
    obtain ⟨cs, hc⟩ := ownsRow_box h.row k hk
    exact (h.box.ne (e ▸ hc) ht) rfl)
  have hb9 : Below B w (w'.setCell ⟨g, 2, none⟩ (.map (some b))) := hb.grown (grown_store w' g 2 _) (by have := hb.size; omega) (fun k e => by cases e; omega)
  generalize w'.setCell ⟨g, 2, none⟩ (.map (some b)) = w9 at *
  have hsz := hu.1
  have hn1 := fun e => hn (List.mem_cons.2 (.inl e))
  have nd := List.nodup_cons.1 h.nd
  have nd2 := List.nodup_cons.1 nd.2
  refine ⟨⟨rb, b, v, X, ?_⟩, hb9, ⟨by omega, fun k hk hnF => (k9 k (fun e => hgF.elim (fun h' => hnF (e ▸ h')) (fun h' => by omega))).trans (hu.2 k hk hnF)⟩⟩
  have gr : ∀ x, grow F w w' x → grow F w w9 x := fun x hx => hx.imp id (fun h => ⟨h.1, by omega⟩)
  exact {
    box := x9
    rd := h.rd.stay (k9 rb (h.rd.noBox h.box))
    wr := hm.stay (k9 b (hm.noBox h.box))
    row := own9
    mks := fun p hp => (h.mks p hp).stay (k9 _ ((h.mks p hp).noBox h.box))
    em := h.em
    nd := List.nodup_cons.2 ⟨fun hm' => by
      rcases List.mem_cons.1 hm' with e | e
      · exact hn1 e.symm
      · exact nd.1 (List.mem_cons_of_mem _ e), List.nodup_cons.2 ⟨fun e => hn (List.mem_cons_of_mem _ (List.mem_cons_of_mem _ e)), nd2.2⟩⟩
    fg := gr _ h.fg
    fr := gr _ h.fr
    fw := .inl hF
    fx := fun p hp => gr _ (h.fx p hp)
    fv := fun k hk => gr _ (h.fv k hk)
    fB := fun x hx => by
      have := h.fB x (hx.imp id (fun h => ⟨h.1, by omega⟩))
      omega
    dep := h.dep }

structure Lft (w w' : World) (B g : Nat) (S : SS Int) (F : Nat → Prop) (b : Nat) : Prop where
  lt : 0 < S.M.length
  ex : ∃ rb wb v X L, IsA encI 85 30 w' B g { S with M := S.M.dropLast } (grow F w w') rb wb v X ∧ MapL encI w' b L ∧ S.M.getLastD [] = L ∧ b ∉ rb :: wb :: X.map (·.1) ∧ F b
  bel : Below B w w'
  upd : Upd F w w'
structure sLft (w w' : World) (B g : Nat) (S : SS ByteArray) (F : Nat → Prop) (b : Nat) : Prop where
  lt : 0 < S.M.length
  ex : ∃ rb wb v X L, IsA encS 119 116 w' B g { S with M := S.M.dropLast } (grow F w w') rb wb v X ∧ MapL encS w' b L ∧ S.M.getLastD [] = L ∧ b ∉ rb :: wb :: X.map (·.1) ∧ F b
  bel : Below B w w'
  upd : Upd F w w'
end Go.Proofs.Ytafiopjgegmfoaa
