/-
  NestFirst: a row of bodies, each of which writes one cell.
-/
import Derived.Test.YtbpbclmlkdnfbaaNAwk
import Derived.Test.YtbpbclmlkdnfbaaNHasW
namespace Go.Proofs.Ytbpbclmlkdnfbaa.T
open Go.RowKit Go.Proofs.Ytbpbclmlkdnfbaa.C
def fbv (cb tb ib ob : Nat) : Value := .func (.func 32) #[] #[.pointer (some ⟨cb, 0, none⟩), .pointer (some ⟨tb, 0, none⟩), .pointer (some ⟨ib, 0, none⟩), .pointer (some ⟨ob, 0, none⟩)]
/-- k bodies were made behind w3; vs: their values -/
structure FB (w3 u : World) (cb tb : Nat) (ok : Nat → Bool) (v : Value) (k : Nat) (vs : List Value) : Prop where
  bel : Below w3.heap.size w3 u
  len : vs.length = k
  row : u.ownsRow w3.heap.size 46 1 v k vs
  one : ∀ j, j < k → ∃ ib ob, vs[j]? = some (fbv cb tb ib ob) ∧ w3.heap.size ≤ ib ∧ w3.heap.size ≤ ob ∧ Box u ib #[.int .i64 (j : Int)] 3 ∧ Box u ob #[.bool (ok j)] 4
theorem FB.nil (w3 : World) (cb tb : Nat) (ok : Nat → Bool) : FB w3 w3 cb tb ok (.slice none 0 0) 0 [] := ⟨Below.refl _ _, rfl, World.ownsRow_nil _ _ _ _, fun j hj => by omega⟩
theorem FB.add {w3 u u1 w4 : World} {cb tb k ib ob : Nat} {ok : Nat → Bool} {v v' : Value} {vs : List Value} (h : FB w3 u cb tb ok v k vs) (hb : Below u.heap.size u u1) (hi : u.heap.size ≤ ib) (ho : u.heap.size ≤ ob) (bi : Box u1 ib #[.int .i64 (k : Int)] 3) (bo : Box u1 ob #[.bool (ok k)] 4)
    (hr : w4.ownsRow w3.heap.size 46 1 v' (k + 1) (vs ++ [fbv cb tb ib ob])) (hg : u1.grownBy w4 v.ownBlock) : FB w3 w4 cb tb ok v' (k + 1) (vs ++ [fbv cb tb ib ob]) := by
  have hr1 : u1.ownsRow w3.heap.size 46 1 v k vs := ownsRow_below h.row hb.block
  have hk1 : ∀ x cs t, Box u1 x cs t → t ≠ 46 → Box w4 x cs t := fun x cs t b ht => (hg.block x b.lt (fun e => by
    obtain ⟨cs', hc⟩ := ownsRow_box hr1 x e.symm
    exact (b.ne hc ht) rfl)).trans b
  have hle : w3.heap.size ≤ u.heap.size := h.bel.size
  refine ⟨((h.bel.trans (hb.mono hle))).grown hg (Nat.le_trans hle hb.size) (fun x e => (hr1.lt x e).1), by simp [h.len], hr, fun j hj => ?_⟩
  by_cases e : j < k
  · obtain ⟨ib', ob', e1, e2, e3, e4, e5⟩ := h.one j e
    exact ⟨ib', ob', by rw [List.getElem?_append_left (by rw [h.len]; omega)]; exact e1, e2, e3, hk1 _ _ _ (e4.below hb e4.lt) (by decide), hk1 _ _ _ (e5.below hb e5.lt) (by decide)⟩
  · have ej : j = k := by omega
    subst ej
    exact ⟨ib, ob, by rw [← h.len]; simp, by omega, by omega, hk1 _ _ _ bi (by decide), hk1 _ _ _ bo (by decide)⟩
section
variable {w0 u : World} {m gm g : Nat} {S : M} {x x' : TX} {G V : Nat → Prop}
set_option maxRecDepth 20000 in
theorem bk32_at {tb cb ib ob : Nat} {c i e0 : Int} {b : Bool} (h : Hg w0 u m gm S [(g, x)] G) (bc : Box u cb #[.int .i64 c] 3) (bt : Box u tb #[ptr g] 42) (bi : Box u ib #[.int .i64 i] 3) (bo : Box u ob #[.bool b] 4) (hc : 0 ≤ c ∧ c < 100) (hGc : ¬ G cb) (h0 : w0.heap.size ≤ cb) (hGo : ¬ G ob) (hic : ib ≠ cb) (he : x.write S i 1 = (e0, x')) :
    Calls Try.prog 32 #[ptr cb, ptr tb, ptr ib, ptr ob] u fun r u' => r = .returned (.int .i64 (if b then 0 else 77)) ∧ ToG w0 u m gm S [(g, x')] G (fun y => y = cb) u' ∧ Box u' cb #[.int .i64 (c + 1)] 3 := by
  have hto : ToG w0 u m gm S [(g, x)] G (fun y => y = cb) (u.setCell ⟨cb, 0, none⟩ (.int .i64 (c + 1))) := by
    have q := h.store hGc h0 0 (.int .i64 (c + 1))
    exact ⟨q.wide (fun z hz => .inl hz) (fun z hz => hz.elim q.gB (fun e => by have := e.1; have := e.2; simp at this; omega)), by simp, fun z _ hn => heap_setCell_other u _ z _ (show z ≠ cb from fun e => hn (.inr e))⟩
  have cw := (h.store hGc h0 0 (.int .i64 (c + 1))).write (V := fun _ => False) (j := 0) rfl i 1 he
  simp only [List.set_cons_zero] at cw
  have bc' := bc.store 0 (.int .i64 (c + 1))
  have bt' := bt.other cb 0 (.int .i64 (c + 1)) (bt.ne bc (by decide))
  have bi' := bi.other cb 0 (.int .i64 (c + 1)) hic
  have bo' := bo.other cb 0 (.int .i64 (c + 1)) (bo.ne bc (by decide))
  have K : Hid (∀ u', ToG w0 (u.setCell ⟨cb, 0, none⟩ (.int .i64 (c + 1))) m gm S [(g, x')] G (fun _ => False) u' → u'.cell? ⟨ob, 0, none⟩ = some (.bool b) ∧ ToG w0 u m gm S [(g, x')] G (fun y => y = cb) u' ∧ Box u' cb #[.int .i64 (c + 1)] 3) := fun u' ht => by
    refine ⟨(Box.upd bo' ht.upd (fun h => h.elim hGo id)).cell 0, ht.base hto.upd h.mm.hB (fun y hy => .inl hy) (fun y hy => hy) (fun y hy => hy.elim), Box.upd bc' ht.upd (fun h => h.elim hGc id)⟩
  have c1 := bc.cell 0
  have f1 := bc.frozen 0
  have c2 := bt'.cell 0
  have c3 := bi'.cell 0
  simp only [List.getElem?_toArray, List.getElem?_cons_zero] at c1 c2 c3
  clear h bc bt bi bo bc' bt' bi' bo' hto
  unfold ptr at *
  go_enter Try.func32, Try.ntmps32
  cases b
  · go_wp2_with (go_at_call 28; refine cw.mono ?_; rintro e' u1 ⟨rfl, k⟩; obtain ⟨k1, k2⟩ := K.out u1 k; have K2 : Hid (ToG w0 u m gm S [(g, x')] G (fun y => y = cb) u1 ∧ Box u1 cb #[.int .i64 (c + 1)] 3) := k2; clear k k2)
    go_ret
    exact ⟨rfl, K2.out⟩
  · go_wp2_with (go_at_call 28; refine cw.mono ?_; rintro e' u1 ⟨rfl, k⟩; obtain ⟨k1, k2⟩ := K.out u1 k; have K2 : Hid (ToG w0 u m gm S [(g, x')] G (fun y => y = cb) u1 ∧ Box u1 cb #[.int .i64 (c + 1)] 3) := k2; clear k k2)
    go_ret
    exact ⟨rfl, K2.out⟩
theorem enter32 : ∀ args w, (callFunc 32 args).run Try.prog w = .ok (.enter 32 args) w := enters_of Try.func32 (by kernel_rfl) rfl
end
end Go.Proofs.Ytbpbclmlkdnfbaa.T
