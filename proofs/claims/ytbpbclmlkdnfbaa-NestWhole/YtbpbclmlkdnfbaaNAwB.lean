/-
  A scope whose body leaves as many scopes open as it found; the chapter's example's bodies.
-/
import Derived.Test.YtbpbclmlkdnfbaaNAll2
namespace Go.Proofs.Ytbpbclmlkdnfbaa.T
open Go.RowKit Go.Proofs.Ytbpbclmlkdnfbaa.C
section
variable {w0 u : World} {m gm g : Nat} {S S2 : M} {x x2 : TX} {G V : Nat → Prop}
/-- behind a body that wrote W -/
def TX.left1 (x x2 : TX) (e : Int) : TX := { x2 with S := { x2.S with W := if e = 0 then x2.S.W else x.S.W, M := x.S.M } }
theorem shut_same (hs : x2.st = 1) (hM : x2.S.M = x.S.M ++ [x.S.W]) (e : Int) : x2.shut (x.S.M.length + 1) e = x.left1 x2 e ∧ x2.shutE (x.S.M.length + 1) e = e := by
  have hl : x2.S.M.length = x.S.M.length + 1 := by rw [hM]; simp
  constructor
  · unfold TX.shut
    rw [if_neg (by omega), if_neg (by omega)]
    unfold TX.cut TX.left1
    have h1 : x2.S.M.length - (x.S.M.length + 1 - 1) = 1 := by omega
    rw [h1, hl]
    have h2 : x2.S.M.take (x.S.M.length + 1 - 1) = x.S.M := by rw [hM]; simp
    have h3 : x2.S.M.getD (x.S.M.length + 1 - 1) [] = x.S.W := by rw [hM]; simp
    rw [h2, h3]
    by_cases he : e = 0 <;> simp [he]
  · unfold TX.shutE
    rw [if_neg (by omega), if_neg (by omega)]
theorem cell_in_write {S : M} {i v e : Int} {x x' : TX} (he : x.write S i v = (e, x')) : x'.st = x.st ∧ x'.S.M = x.S.M := by
  unfold TX.write at he
  split at he
  · injection he with _ h2; subst h2; exact ⟨rfl, rfl⟩
  · split at he
    · injection he with _ h2; subst h2; exact ⟨rfl, rfl⟩
    · injection he with _ h2; subst h2
      refine ⟨rfl, ?_⟩
      unfold SS.write
      split
      · rfl
      · split <;> rfl
set_option maxRecDepth 20000 in
theorem awk52_at {tb vb eb : Nat} {v e e0 : Int} {x' : TX} (h : Hg w0 u m gm S [(g, x)] G) (bt : Box u tb #[ptr g] 42) (bv : Box u vb #[.int .i64 v] 3) (be : Box u eb #[.int .i64 e] 39) (hG : ¬ (G eb ∨ V eb)) (he : x.write S 0 v = (e0, x')) :
    Calls Try.prog 52 #[ptr tb, ptr vb, ptr eb] u fun r u' => r = .returned (.int .i64 e) ∧ ToG w0 u m gm S [(g, x')] G V u' := by
  have c1 := bt.cell 0
  have c2 := bv.cell 0
  simp only [List.getElem?_toArray, List.getElem?_cons_zero] at c1 c2
  have cw := h.write (V := V) (j := 0) rfl 0 v he
  simp only [List.set_cons_zero] at cw
  have HB : Hid (∀ u', ToG w0 u m gm S [(g, x')] G V u' → u'.cell? ⟨eb, 0, none⟩ = some (.int .i64 e)) := fun u' ht => (Box.upd be ht.upd hG).cell 0
  clear h bt bv be
  unfold ptr at *
  go_enter Try.func52, Try.ntmps52
  go_wp2_with (go_at_call 28; refine cw.mono ?_; rintro e' u1 ⟨rfl, k⟩; have ce := HB.out u1 k; have K : Hid (ToG w0 u m gm S [(g, x')] G V u1) := k; clear k)
  go_ret
  exact ⟨rfl, K.out⟩
theorem enter52 : ∀ args w, (callFunc 52 args).run Try.prog w = .ok (.enter 52 args) w := enters_of Try.func52 (by kernel_rfl) rfl
/-- Scope of a body that writes v to cell 0 and tells e -/
theorem wscope_at {tb vb eb : Nat} {v e e0 : Int} {x' : TX} (h : Hg w0 u m gm S [(g, x)] G) (hs : x.st = 1) (hd : x.S.M.length < 8) (bt : Box u tb #[ptr g] 42) (bv : Box u vb #[.int .i64 v] 3) (be : Box u eb #[.int .i64 e] 39) (hGt : ¬ G tb) (hGv : ¬ G vb) (hGe : ¬ G eb) (he : x.open1.write S 0 v = (e0, x')) :
    Calls Try.prog 14 #[ptr g, .func (.func 52) #[] #[ptr tb, ptr vb, ptr eb]] u fun r u' => r = .returned (.int .i64 e) ∧ ToG w0 u m gm S [(g, x.left1 x' e)] G V u' := by
  have hb : Body w0 u m gm g S x.open1 G (fun _ => False) 52 #[ptr tb, ptr vb, ptr eb] (fun e' S2 x2 _ => e' = e ∧ S2 = S ∧ x2 = x') := fun u1 G1 hu g1 g2 hg => by
    have hn : ¬ (G1 eb ∨ False) := fun h => h.elim (fun h => (g2 eb h).elim hGe (fun h => by have := be.lt; omega)) id
    refine (awk52_at (V := fun _ => False) hg (Box.upd bt hu hGt) (Box.upd bv hu hGv) (Box.upd be hu hGe) hn he).mono ?_
    rintro r u2 ⟨rfl, t⟩
    exact ⟨e, S, x', rfl, t, rfl, rfl, rfl⟩
  refine (scope_at h hs hd (fun _ h => h.elim) 52 _ enter52 _ hb).mono ?_
  rintro r u' ⟨e', S2, x2, u2, ⟨rfl, rfl, rfl⟩, rfl, ht, _⟩
  obtain ⟨a, b⟩ := cell_in_write he
  obtain ⟨c, d⟩ := shut_same (x := x) (x2 := x2) (by rw [a]; exact hs) (by rw [b]; rfl) e'
  rw [c] at ht
  rw [d]
  exact ⟨rfl, ht.wide (fun _ h => h.elim)⟩
end
end Go.Proofs.Ytbpbclmlkdnfbaa.T
