/-
  NestWhole: the body of a scope.
-/
import Derived.Test.YtbpbclmlkdnfbaaNWp
import Derived.Test.YtbpbclmlkdnfbaaNRd
import Derived.Deep.RegionHeld3
namespace Go.Proofs.Ytbpbclmlkdnfbaa.T
open Go.RowKit Go.Proofs.Ytbpbclmlkdnfbaa.C
def nws (nw : List Int) : Array Value := (nw.map fun z => Value.int .i64 z).toArray
/-- the law's variables, but the five numbers: where they lie -/
structure WP where
  nb : Nat
  tb : Nat
  ib : Nat
  db : Nat
  rb : Nat
  fb : Nat
  ia : Option Addr
  N : Nat
  ic : Nat
  fa : Option Addr
  F : Nat
  fc : Nat
  deep : Nat
structure WE (p : WP) (g : Nat) (u : World) (G : Nat → Prop) : Prop where
  bt : Box u p.tb #[ptr g] 42
  bi : Box u p.ib #[.slice p.ia p.N p.ic] 51
  bd : Box u p.db #[.int .i64 (p.deep : Int)] 3
  br : Box u p.rb #[.func (.func 29) #[] #[ptr p.nb, ptr p.tb, ptr p.ib, ptr p.db, ptr p.rb, ptr p.fb]] 50
  bf : Box u p.fb #[.slice p.fa p.F p.fc] 52
  gn : ¬ G p.nb ∧ ¬ G p.tb ∧ ¬ G p.ib ∧ ¬ G p.db ∧ ¬ G p.rb ∧ ¬ G p.fb
theorem WE.to {p : WP} {g : Nat} {u u' : World} {G G' : Nat → Prop} {cs : Array Value} (h : WE p g u G) (hn : Box u p.nb cs 53) (t : Upd (fun k => G k ∨ k = p.nb) u u') (hG : ∀ k, G' k → G k ∨ u.heap.size ≤ k) : WE p g u' G' := by
  obtain ⟨g1, g2, g3, g4, g5, g6⟩ := h.gn
  have k1 : ∀ {k : Nat} {cs' : Array Value} {t' : TypeId}, Box u k cs' t' → ¬ G k → t' ≠ 53 → Box u' k cs' t' := fun b hg ht => Box.upd b t (fun hx => hx.elim hg (b.ne hn ht))
  have k2 : ∀ {k : Nat}, ¬ G k → k < u.heap.size → ¬ G' k := fun hg hl hx => (hG _ hx).elim hg (fun hx => by omega)
  exact ⟨k1 h.bt g2 (by decide), k1 h.bi g3 (by decide), k1 h.bd g4 (by decide), k1 h.br g5 (by decide), k1 h.bf g6 (by decide), k2 g1 hn.lt, k2 g2 h.bt.lt, k2 g3 h.bi.lt, k2 g4 h.bd.lt, k2 g5 h.br.lt, k2 g6 h.bf.lt⟩
/-- what a part of the law leaves -/
def WJ (w0 u : World) (m gm g : Nat) (p : WP) (Mk : List (List (Int × Int))) (G : Nat → Prop) (u' : World) : Prop :=
  ∃ W nw, ToG w0 u m gm wS [(g, wX W Mk)] G (fun y => y = p.nb) u' ∧ Box u' p.nb (nws nw) 53 ∧ Wv W nw
def RunOk (w0 : World) (m gm g : Nat) (p : WP) (n : Nat) : Prop :=
  ∀ u G W Mk nw, Hg w0 u m gm wS [(g, wX W Mk)] G → WE p g u G → Box u p.nb (nws nw) 53 → Wv W nw → Mk.length = n → Calls Try.prog 29 #[.int .i64 (n : Int), ptr p.nb, ptr p.tb, ptr p.ib, ptr p.db, ptr p.rb, ptr p.fb] u fun r u' => r = .returned (.bool true) ∧ WJ w0 u m gm g p Mk G u'
theorem ToG.up {w0 u u' : World} {m gm : Nat} {S : M} {l : List (Nat × TX)} {G V : Nat → Prop} (_ : ToG w0 u m gm S l G V u') : ∀ k, grow G u u' k → G k ∨ u.heap.size ≤ k := fun _ hk => hk.imp id (fun e => e.1)
theorem nws_cell {u : World} {nb : Nat} {nw : List Int} (h : Box u nb (nws nw) 53) (hl : nw.length = 5) (c : Nat) (hc : c < 5) : u.cell? ⟨nb, c, none⟩ = some (.int .i64 (nw.getD c 0)) := by
  rw [h.cell c]
  unfold nws
  simp [List.getD, show c < nw.length by omega]
theorem nws_store {u : World} {nb : Nat} {nw : List Int} (h : Box u nb (nws nw) 53) (c : Nat) (v : Int) : Box (u.setCell ⟨nb, c, none⟩ (.int .i64 v)) nb (nws (nw.set c v)) 53 := by
  have := h.store c (.int .i64 v)
  unfold nws at this ⊢
  rw [List.setIfInBounds_toArray, ← List.map_set] at this
  exact this
/-- a cell is written, and the number beside it -/
theorem WJ.put {w0 u u1 u2 : World} {m gm g c : Nat} {p : WP} {Mk : List (List (Int × Int))} {G : Nat → Prop} {W : List (Int × Int)} {nw : List Int} {v : Int} (h0 : w0.heap.size ≤ p.nb) (hng : ¬ G p.nb) (hnl : p.nb < u.heap.size) (t : ToG w0 u m gm wS [(g, wX W Mk)] G (fun y => y = p.nb) u1) (b : Box u1 p.nb (nws nw) 53) (hW : Wv W nw) (hc : c < 5)
    (t2 : ToG w0 u1 m gm wS [(g, wX (pt W (c : Int) v) Mk)] (grow G u u1) (fun _ => False) u2) : WJ w0 u m gm g p Mk G (u2.setCell ⟨p.nb, c, none⟩ (.int .i64 v)) := by
  have hg1 : ¬ grow G u u1 p.nb := fun h => h.elim hng (fun h => by omega)
  have b2 := Box.upd b t2.upd (fun h => h.elim hg1 id)
  have t3 : ToG w0 u m gm wS [(g, wX (pt W (c : Int) v) Mk)] G (fun y => y = p.nb) u2 := t.trans (t2.wide (fun _ h => h.elim))
  have hg2 : ¬ grow G u u2 p.nb := fun h => h.elim hng (fun h => by omega)
  refine ⟨_, _, ⟨?_, ?_⟩, nws_store b2 c v, hW.put c hc v⟩
  · have q := t3.has.store hg2 h0 c (.int .i64 v)
    refine q.wide (fun y hy => hy.imp id (fun e => ⟨e.1, by simpa using e.2⟩)) (fun y hy => ?_)
    rcases hy with hy | hy
    · exact q.gB (.inl hy)
    · exact q.gB (.inr ⟨hy.1, by simpa using hy.2⟩)
  · refine ⟨by have := t3.upd.1; simpa using this, fun y hy hn => ?_⟩
    rw [heap_setCell_other u2 _ y _ (show y ≠ p.nb from fun e => hn (.inr e))]
    exact t3.upd.2 y hy hn
end Go.Proofs.Ytbpbclmlkdnfbaa.T
