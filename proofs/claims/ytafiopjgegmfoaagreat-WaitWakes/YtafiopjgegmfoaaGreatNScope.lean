/-
  inside, Scope.
-/
import Derived.Test.YtafiopjgegmfoaaGreatNClosed
import Derived.Defers
import Derived.Recover
namespace Go.Proofs.YtafiopjgegmfoaaGreat.T
open Go.RowKit Go.Proofs.YtafiopjgegmfoaaGreat.C
theorem Box.upd {u u' : World} {F : Nat → Prop} {k : Nat} {cs : Array Value} {t : TypeId} (h : Box u k cs t) (hu : Upd F u u') (hk : ¬ F k) : Box u' k cs t := (hu.2 k (Box.lt h) hk).trans h
section
variable {w0 u : World} {m gm g tb db ob eb : Nat} {S : M} {x : TX} {G V : Nat → Prop}
set_option maxHeartbeats 1000000 in
set_option maxRecDepth 20000 in
theorem shut_deferred (h : Hg w0 u m gm S [(g, x)] G) (d : Nat) (h1 : 1 ≤ d) (e y : Int) (bt : Box u tb #[ptr g] 35) (bd : Box u db #[.int .i64 (d : Int)] 3) (bo : Box u ob #[.int .i64 e] 23) (be : Box u eb #[.int .i64 y] 23) (ge : ¬ G eb) (md : FrameMode) :
    CallsD Tryz.prog 74 #[ptr tb, ptr db, ptr ob, ptr eb] md u fun r md' u' => md' = md ∧ (r = .returned (.tuple #[]) ∧ ∃ u1, ToG w0 u m gm S [(g, x.shut d e)] G (fun _ => False) u1 ∧ u' = u1.setCell ⟨eb, 0, none⟩ (.int .i64 (x.shutE d e))) := by
  have c1 := bt.cell 0
  have c2 := bd.cell 0
  have c3 := bo.cell 0
  have cc := closed_at (V := fun _ => False) h d h1 e
  have HE : Hid (∀ u1, ToG w0 u m gm S [(g, x.shut d e)] G (fun _ => False) u1 → u1.cell? ⟨eb, 0, none⟩ = some (.int .i64 y) ∧ u1.frozen? ⟨eb, 0, none⟩ = false) := fun u1 ht => by
    have b := Box.upd be ht.upd (fun e => e.elim ge id)
    exact ⟨b.cell 0, b.frozen 0⟩
  simp only [List.getElem?_toArray, List.getElem?_cons_zero] at c1 c2 c3
  clear h bt bd bo be h1
  unfold ptr at *
  go_enter_d Tryz.func74, Tryz.ntmps74
  go_wp2_with (go_at_call 75; refine cc.mono ?_; rintro e' u1 ⟨rfl, k1⟩; have HK1 : Hid (ToG w0 u m gm S [(g, x.shut d e)] G (fun _ => False) u1) := k1; obtain ⟨f1, f2⟩ := HE.out u1 k1; clear k1)
  go_end0
  exact ⟨rfl, u1, HK1.out, rfl⟩
end
end Go.Proofs.YtafiopjgegmfoaaGreat.T
