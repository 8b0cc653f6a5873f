/-
  The document's disk: Read, Image.
-/
import Derived.Test.YtagnmmapnpcijaaRefAt
namespace Go.Proofs.Ytagnmmapnpcijaa
open Go.RowKit

theorem rread_bad (a1 a2 : Option Addr) (n1 c1 n2 c2 : Nat) (cnt am fl : Int) (dn : Bool) (n : Int) (w : World) (_hn1 : n1 ≤ 9223372036854775807) (h : n < 0 ∨ (0 ≤ n ∧ (n1 : Int) ≤ n)) :
    Calls Try.prog 52 #[.agg #[.slice a1 n1 c1, .slice a2 n2 c2, .int .i64 cnt, .bool dn, .int .i64 am, .int .i64 fl], .int .i64 n] w fun r w' => r = .returned (.tuple #[.slice none 0 0, .int .i64 70]) ∧ Below w.heap.size w w' := by
  rcases h with h | ⟨h0, h⟩
  · go_enter Try.func52, Try.ntmps52
    go_wp2
    exact bodyPost_ret (v := .tuple #[.slice none 0 0, .int .i64 70]) (by simp [results, Try.results52, go_sem]) rfl ⟨rfl, (Below.refl w.heap.size w).alloc (Nat.le_refl _) _⟩
  · go_enter Try.func52, Try.ntmps52
    go_wp2
    exact bodyPost_ret (v := .tuple #[.slice none 0 0, .int .i64 70]) (by simp [results, Try.results52, go_sem]) rfl ⟨rfl, (Below.refl w.heap.size w).alloc (Nat.le_refl _) _⟩
theorem rread_down (a1 a2 : Option Addr) (n1 c1 n2 c2 : Nat) (cnt am fl : Int) (n : Nat) (w : World) (_hn1 : n1 ≤ 9223372036854775807) (h : n < n1) :
    Calls Try.prog 52 #[.agg #[.slice a1 n1 c1, .slice a2 n2 c2, .int .i64 cnt, .bool true, .int .i64 am, .int .i64 fl], .int .i64 n] w fun r w' => r = .returned (.tuple #[.slice none 0 0, .int .i64 6]) ∧ Below w.heap.size w w' := by
  go_enter Try.func52, Try.ntmps52
  go_wp2
  exact bodyPost_ret (v := .tuple #[.slice none 0 0, .int .i64 6]) (by simp [results, Try.results52, go_sem]) rfl ⟨rfl, (Below.refl w.heap.size w).alloc (Nat.le_refl _) _⟩
theorem rread_good {w : World} {Q : Nat → Prop} {a1 a2 : Option Addr} {n1 c1 n2 c2 : Nat} {D : DS} (h : RD w Q a1 a2 n1 c1 n2 c2 D) (cnt am fl : Int) (n : Nat) (hn : n < D.nb) :
    Calls Try.prog 52 #[.agg #[.slice a1 n1 c1, .slice a2 n2 c2, .int .i64 cnt, .bool false, .int .i64 am, .int .i64 fl], .int .i64 n] w fun r w' =>
      ∃ p o c, r = .returned (.tuple #[.slice (some ⟨p, o, none⟩) 4096 c, .int .i64 0]) ∧ BlkAt w' Q (.slice (some ⟨p, o, none⟩) 4096 c) (D.stand n) ∧ Below w.heap.size w w' := by
  have B0 := (Below.refl w.heap.size w).alloc (Nat.le_refl _) (.cells #[.slice a1 n1 c1, .slice a2 n2 c2, .int .i64 cnt, .bool false, .int .i64 am, .int .i64 fl] 49)
  have cA := rat_at (h.below B0) cnt am fl false n hn
  have hnn : (n : Int) < (n1 : Int) := by have := h.ns; omega
  have hn1 : n1 ≤ 9223372036854775807 := by have := h.ns; have := h.ok.hi; omega
  clear h
  go_enter Try.func52, Try.ntmps52
  go_wp2_with fail
  refine cA.mono ?_
  rintro r w1 ⟨p, o, c, rfl, hb, b1⟩
  have B1 := B0.trans (b1.mono B0.size)
  go_wp2_with fail
  exact bodyPost_ret (v := .tuple #[.slice (some ⟨p, o, none⟩) 4096 c, .int .i64 0]) (by simp [results, Try.results52, go_sem]) rfl ⟨p, o, c, rfl, hb, B1⟩

def imgK (D : DS) : Nat → List UInt8
  | 0 => []
  | k + 1 => imgK D k ++ D.stand k
theorem stand_blk (D : DS) (ok : D.Ok) (k : Nat) (hk : k < D.nb) : blk D.image k = D.stand k := (blk_carryTo D.uf D.dur D.nb k hk ok.len ok.each D.uf.length (Nat.le_refl _)).2
theorem image_len (D : DS) (ok : D.Ok) : D.image.length = D.nb * 4096 := by
  have := (blk_carryTo D.uf D.dur D.nb 0 (by have := ok.lo; omega) ok.len ok.each D.uf.length (Nat.le_refl _)).1
  exact this
theorem imgK_take (D : DS) (ok : D.Ok) : ∀ k, k ≤ D.nb → imgK D k = D.image.take (k * 4096)
  | 0, _ => by simp [imgK]
  | k + 1, h => by
    rw [imgK, imgK_take D ok k (by omega), ← stand_blk D ok k (by omega), blk, show (k + 1) * 4096 = k * 4096 + 4096 by omega, List.take_add]
theorem imgK_all (D : DS) (ok : D.Ok) : imgK D D.nb = D.image := by
  rw [imgK_take D ok D.nb (Nat.le_refl _), ← image_len D ok, List.take_length]
theorem stand_len' (D : DS) (ok : D.Ok) (k : Nat) (hk : k < D.nb) : (D.stand k).length = 4096 := by
  rw [← stand_blk D ok k hk]
  exact blk_length _ _ (by rw [image_len D ok]; omega)
theorem owns_ne {w : World} {B g n e z t : Nat} {v : Value} {xs : List Value} {cs : Array Value} (h : w.ownsRow B e z v n xs) (hb : Box w g cs t) (ht : e ≠ t) : some g ≠ v.ownBlock := by
  rcases h.2 with ⟨rfl, _⟩ | ⟨g', cap, cur, rfl, _, hg, _⟩
  · simp [Value.ownBlock]
  · intro e'
    simp [Value.ownBlock] at e'
    subst e'
    exact Box.ne (cs := cur) hg hb ht rfl

set_option maxRecDepth 100000 in
theorem rimage_at {w : World} {Q : Nat → Prop} {a1 a2 : Option Addr} {n1 c1 n2 c2 : Nat} {D : DS} (h : RD w Q a1 a2 n1 c1 n2 c2 D) (cnt am fl : Int) (dn : Bool) :
    Calls Try.prog 30 #[.agg #[.slice a1 n1 c1, .slice a2 n2 c2, .int .i64 cnt, .bool dn, .int .i64 am, .int .i64 fl]] w fun r w' =>
      ∃ v, r = .returned v ∧ w'.ownsRow w.heap.size 5 1 v (D.nb * 4096) (bcs D.image) ∧ Below w.heap.size w w' := by
  have B0 := (Below.refl w.heap.size w).alloc (Nat.le_refl _) (.cells #[.slice a1 n1 c1, .slice a2 n2 c2, .int .i64 cnt, .bool dn, .int .i64 am, .int .i64 fl] 49)
  have x0 := Box.new w #[.slice a1 n1 c1, .slice a2 n2 c2, .int .i64 cnt, .bool dn, .int .i64 am, .int .i64 fl] 49
  have e1 := h.ns
  have hhi := h.ok.hi
  have H : Hid (RD w Q a1 a2 n1 c1 n2 c2 D) := h
  have He : Hid _ := e1
  have hn1 : n1 ≤ 512 := by omega
  clear h e1 hhi
  go_enter Try.func30, Try.ntmps30
  go_wp2_with fail
  go_loopw [3, 4] (fun v i wr => ∃ k : Nat, k ≤ n1 ∧ wr.ownsRow w.heap.size 5 1 v (k * 4096) (bcs (imgK D k)) ∧ i = .int .i64 k ∧ Box wr w.heap.size #[.slice a1 n1 c1, .slice a2 n2 c2, .int .i64 cnt, .bool dn, .int .i64 am, .int .i64 fl] 49 ∧ Below w.heap.size w wr) (fun _ i _ => n1 - (intOf i).toNat)
  case atStart => exact ⟨0, by omega, World.ownsRow_nil _ _ _ _, rfl, x0, B0⟩
  case round =>
    clear x0 B0
    obtain ⟨k, hk, ho, rfl, x, B⟩ := hrel
    obtain ⟨p0, p1, p2, p3, p4, p5⟩ := x.all6
    by_cases hlt : k < n1
    · have hlt2 : (k : Int) < (n1 : Int) := by omega
      have hkD : k < D.nb := by rw [← He.out]; exact hlt
      have cA := rat_at (RD.below H.out (B.mono (Nat.le_refl _))) cnt am fl dn k hkD
      have Ho : Hid _ := ho
      have Hx : Hid _ := x
      have HB : Hid _ := B
      clear ho x B
      go_wp2_with fail
      refine cA.mono ?_
      rintro r w1 ⟨p, o, c, rfl, hb, b1⟩
      clear cA p0 p1 p2 p3 p4 p5
      obtain ⟨_, rd, rl, rc, rm⟩ := hb.rd
      have o1 : w1.ownsRow w.heap.size 5 1 _ (k * 4096) (bcs (imgK D k)) := World.ownsRow.kept (row := none) Ho.out ⟨b1.os, b1.tape, b1.output, b1.size, fun q hq _ => b1.block q hq⟩ (Classical.em _)
      have x1 := Box.below Hx.out b1
      have B1 := HB.out.trans (b1.mono HB.out.size)
      clear Ho Hx HB b1 hb
      go_wp2_with (at_builtin; refine wpList_append_bytes rfl _ _ rfl w.heap.size _ (k * 4096) (bcs (imgK D k)) rfl o1 (some ⟨p, o, none⟩) 4096 c (D.stand k) rfl rl rd (fun h => by cases h) (by omega) B1.size ?_)
      rintro v2 w2 o2 gr
      have x2 : Box w2 w.heap.size _ 49 := (gr.block _ x1.lt (owns_ne o1 x1 (by decide))).trans x1
      have B2 := B1.grown gr B1.size (fun q e => (World.ownsRow.lt o1 q e).1)
      have o2' : w2.ownsRow w.heap.size 5 1 v2 ((k + 1) * 4096) (bcs (imgK D (k + 1))) := by
        rw [imgK, bcs_append, Nat.add_mul, Nat.one_mul]
        exact o2
      have Ho2 : Hid _ := o2'
      clear o2 o2' o1 x1 B1 gr rd
      go_wp2_with fail
      go_roundw
      case rel => exact ⟨k + 1, by omega, Ho2.out, by go_num, x2, B2⟩
      case measure => simp [intOf]; omega
    · have hkn : k = n1 := by omega
      rw [hkn] at ho
      have Ho : Hid _ := ho
      clear ho hkn
      go_wp2_with fail
      go_ret
      refine ⟨_, rfl, ?_, B⟩
      have e := imgK_all D H.out.ok
      rw [← He.out] at e
      rw [← He.out, ← e]
      exact Ho.out
end Go.Proofs.Ytagnmmapnpcijaa
