/-
  DiskPlays: through any script every answer is as the document defines, and so is what the disk holds.
-/
import Derived.Test.YtagnmmapnpcijaaPlay
import Derived.Test.YtagnmmapnpcijaaPile
import Derived.Test.YtagnmmapnpcijaaLow
import Derived.Test.YtagnmmapnpcijaaClass
import Derived.Deep.Cut
import Derived.Deep.CutBlock
import Derived.Deep.QuietTactic
import Derived.BigQuiet
namespace Go.Proofs.Ytagnmmapnpcijaa
open Go.RowKit

theorem Both.box {K : List (Nat × Obj)} {w0 w : World} {g : Nat} {D : DS} {v : Value} (h : Both K w0 w g D v) {b : Nat} {cs : Array Value} {t : TypeId} (hm : (b, .cells cs t) ∈ K) : Box w b cs t := by
  obtain ⟨F, a1, a2, n1, c1, n2, c2, hv, hd, f0, B, R, kk⟩ := h
  exact (kk _ hm).1
theorem Both.all {K : List (Nat × Obj)} {w0 w : World} {g : Nat} {D : DS} {v : Value} (h : Both K w0 w g D v) : Below w0.heap.size w0 w := by
  obtain ⟨F, a1, a2, n1, c1, n2, c2, hv, hd, f0, B, R, kk⟩ := h
  exact B
theorem Both.set6 {w0 w : World} {g bx : Nat} {D : DS} {v : Value} {y0 y1 y2 y3 y4 y5 : Value} (h : Both [(bx, .cells #[y0, y1, y2, y3, y4, y5] 49)] w0 w g D v) (hb : w0.heap.size ≤ bx) (x0 x1 x2 x3 x4 x5 : Value) :
    Both [(bx, .cells #[x0, x1, x2, x3, x4, x5] 49)] w0 (set6 w bx x0 x1 x2 x3 x4 x5) g D v := by
  have q := (((((h.store hb (by simp) 0 x0).store hb (by simp) 1 x1).store hb (by simp) 2 x2).store hb (by simp) 3 x3).store hb (by simp) 4 x4).store hb (by simp) 5 x5
  unfold Go.Proofs.Ytagnmmapnpcijaa.set6
  simpa using q

theorem Both.rd {K : List (Nat × Obj)} {w0 w : World} {g : Nat} {D : DS} {a1 a2 : Option Addr} {n1 c1 n2 c2 : Nat} (h : Both K w0 w g D (.agg (refA a1 a2 n1 c1 n2 c2 D))) :
    ∃ F : Nat → Prop, IsDisk w g D F ∧ (∀ i, F i → w0.heap.size ≤ i) ∧ RD w (fun i => ¬ F i) a1 a2 n1 c1 n2 c2 D ∧ ∀ p ∈ K, ¬ F p.1 := by
  obtain ⟨F, b1, b2, m1, d1, m2, d2, hv, hd, f0, B, R, kk⟩ := h
  obtain ⟨rfl, rfl, rfl, rfl, rfl, rfl⟩ : a1 = b1 ∧ n1 = m1 ∧ c1 = d1 ∧ a2 = b2 ∧ n2 = m2 ∧ c2 = d2 := by
    simp only [refA, Value.agg.injEq, Array.mk.injEq, List.cons.injEq, Value.slice.injEq] at hv
    obtain ⟨⟨h1, h2, h3⟩, ⟨h4, h5, h6⟩, _⟩ := hv
    exact ⟨h1, h2, h3, h4, h5, h6⟩
  exact ⟨F, hd, f0, R, fun p hp => (kk p hp).2⟩
theorem Both.below {K : List (Nat × Obj)} {w0 w w' : World} {g : Nat} {D : DS} {v : Value} (h : Both K w0 w g D v) (b : Below w.heap.size w w') : Both K w0 w' g D v := by
  obtain ⟨F, a1, a2, n1, c1, n2, c2, hv, hd, f0, B, R, kk⟩ := h
  refine ⟨F, a1, a2, n1, c1, n2, c2, hv, hd.below b, f0, B.trans (b.mono B.size), R.below b, fun p hp => ?_⟩
  have lt : p.1 < w.heap.size := (Array.getElem?_eq_some_iff.1 (kk p hp).1).1
  exact ⟨(b.block p.1 lt).trans (kk p hp).1, (kk p hp).2⟩
theorem both_writes {K : List (Nat × Obj)} {w0 w : World} {g : Nat} {D : DS} {v : Value} (h : Both K w0 w g D v) :
    Calls Try.prog 14 #[.pointer (some ⟨g, 0, none⟩)] w fun e w' => e = .returned (.int .i64 (D.n : Int)) ∧ w = w' := by
  obtain ⟨F, a1, a2, n1, c1, n2, c2, hv, hd, _⟩ := h
  exact writes_at hd
theorem both_size {K : List (Nat × Obj)} {w0 w : World} {g : Nat} {D : DS} {v : Value} (h : Both K w0 w g D v) :
    Calls Try.prog 22 #[.pointer (some ⟨g, 0, none⟩)] w fun e w' => e = .returned (.int .i64 (D.nb : Int)) ∧ w = w' := by
  obtain ⟨F, a1, a2, n1, c1, n2, c2, hv, ⟨gd, cd, vu, ps, hL⟩, _⟩ := h
  exact size_at hL
theorem owns_slice {w : World} {B e n : Nat} {v : Value} {xs : List Value} (h : w.ownsRow B e 1 v n xs) : ∃ a c, v = .slice a n c := by
  rcases h.2 with ⟨rfl, rfl⟩ | ⟨g, cap, cur, rfl, _⟩
  · exact ⟨none, 0, rfl⟩
  · exact ⟨_, cap, rfl⟩
theorem owns_cell {w : World} {B e n : Nat} {a : Option Addr} {c : Nat} {xs : List Value} (h : w.ownsRow B e 1 (.slice a n c) n xs) {k : Nat} (hk : k < n) : ∃ g, a = some ⟨g, 0, none⟩ ∧ w.cell? ⟨g, k, none⟩ = xs[k]? := by
  rcases h.2 with ⟨h1, rfl⟩ | ⟨g, cap, cur, h1, _, hg, hnc, hcm, hcs, ht⟩
  · omega
  · injection h1 with h1
    subst h1
    refine ⟨g, rfl, ?_⟩
    have hB : Box w g cur e := hg
    rw [hB.cell k, ← ht, List.getElem?_take, if_pos (by omega)]
    simp

/-- at the end: the disk, its copy, the document's disk in the law's box -/
structure EndS (w0 w : World) (g gc g7 : Nat) (D Dc : DS) (a1 a2 : Option Addr) (n1 c1 n2 c2 : Nat) (F Fc : Nat → Prop) : Prop where
  d : IsDisk w g D F
  c : IsDisk w gc Dc Fc
  r : RD w (fun i => ¬ F i ∧ ¬ Fc i) a1 a2 n1 c1 n2 c2 D
  bx : Box w g7 #[.slice a1 n1 c1, .slice a2 n2 c2, .int .i64 (D.n : Int), .bool D.gone, .int .i64 (fuseI D.arm), .int .i64 (fuseI D.fail)] 49
  nF : ¬ Fc g7
  ap : ∀ i, F i → ¬ Fc i
  lo : ∀ i, Fc i → w0.heap.size ≤ i
  B : Below w0.heap.size w0 w
theorem EndS.below {w0 w w' : World} {g gc g7 : Nat} {D Dc : DS} {a1 a2 : Option Addr} {n1 c1 n2 c2 : Nat} {F Fc : Nat → Prop} (h : EndS w0 w g gc g7 D Dc a1 a2 n1 c1 n2 c2 F Fc) (b : Below w.heap.size w w') : EndS w0 w' g gc g7 D Dc a1 a2 n1 c1 n2 c2 F Fc :=
  ⟨h.d.below b, h.c.below b, h.r.below b, h.bx.below b, h.nF, h.ap, h.lo, h.B.trans (b.mono h.B.size)⟩
theorem EndS.upd {w0 w w' : World} {g gc g7 : Nat} {D Dc Dc' : DS} {a1 a2 : Option Addr} {n1 c1 n2 c2 : Nat} {F Fc : Nat → Prop} (h : EndS w0 w g gc g7 D Dc a1 a2 n1 c1 n2 c2 F Fc) (hc : IsDisk w' gc Dc' Fc) (u : Upd Fc w w') : EndS w0 w' g gc g7 D Dc' a1 a2 n1 c1 n2 c2 F Fc :=
  ⟨h.d.upd u h.ap, hc, h.r.move (fun i hi hn _ => u.block i hi hn.2) (fun _ _ h => h), u.box h.bx h.nF, h.nF, h.ap, h.lo, h.B.trans (u.below h.lo h.B.size)⟩
theorem EndS.new {w0 w w' : World} {g gc g7 : Nat} {D Dc : DS} {a1 a2 : Option Addr} {n1 c1 n2 c2 : Nat} {Fc : Nat → Prop} (h : Both [(g7, .cells (refA a1 a2 n1 c1 n2 c2 D) 49)] w0 w g D (.agg (refA a1 a2 n1 c1 n2 c2 D))) (hc : IsDisk w' gc Dc Fc) (hF : ∀ i, Fc i → w.heap.size ≤ i) (b : Below w.heap.size w w') : ∃ F, EndS w0 w' g gc g7 D Dc a1 a2 n1 c1 n2 c2 F Fc := by
  obtain ⟨F, hd, f0, R, hK⟩ := h.rd
  have bx := h.box (b := g7) (cs := refA a1 a2 n1 c1 n2 c2 D) (t := 49) (by simp)
  have B := h.all
  refine ⟨F, hd.below b, hc, R.move (fun i hi _ _ => b.block i hi) (fun i hi hn => ⟨hn, fun h => by have := hF i h; omega⟩), bx.below b, fun h => by have := hF _ h; have := bx.lt; omega, fun i hi h => by have := hd.flt i hi; have := hF i h; omega, fun i hi => Nat.le_trans B.size (hF i hi), B.trans (b.mono B.size)⟩
theorem RowB.below {w w' : World} {g c : Nat} {ys : List UInt8} (h : RowB w g c ys) (b : Below w.heap.size w w') : RowB w' g c ys := h.same (b.block g h.lt)

theorem img_len {D : DS} (h : D.Ok) : D.image.length = D.nb * 4096 := (carryTo_length D h D.dur rfl D.uf.length).trans h.len

/-- an operation of the script -/
structure OpV where
  k : Int
  n : Int
  sz : Int
  b : Int
  ak : Option Addr
  nk : Nat
  ck : Nat
  m : Nat
def OpOk (w : World) (o : OpV) : Prop := o.n ≤ 9223372036854775807 ∧ o.m < 256 ∧ ∃ ks : List Bool, ks.length = o.nk ∧ o.nk ≤ 9223372036854775807 ∧ RdBl w o.ak ks ∧ ∀ ad, o.ak = some ad → 0 < o.nk → ad.block < w.heap.size
/-- the operations lie where the address says -/
def RdOp (w : World) (a : Option Addr) (os : List OpV) : Prop :=
  0 < os.length → ∃ b o, a = some ⟨b, o, none⟩ ∧ b < w.heap.size ∧ ∀ j (h : j < os.length), OpOk w os[j] ∧
    w.cell? ⟨b, o + j * 6, none⟩ = some (.int .i64 os[j].k) ∧ w.cell? ⟨b, o + j * 6 + 1, none⟩ = some (.int .i64 os[j].n) ∧ w.cell? ⟨b, o + j * 6 + 2, none⟩ = some (.int .i64 os[j].sz) ∧
    w.cell? ⟨b, o + j * 6 + 3, none⟩ = some (.int .i64 os[j].b) ∧ w.cell? ⟨b, o + j * 6 + 4, none⟩ = some (.slice os[j].ak os[j].nk os[j].ck) ∧ w.cell? ⟨b, o + j * 6 + 5, none⟩ = some (.int .u8 (os[j].m : Int))

/-- what stands at the head of a round -/
def DRel (w0 : World) (nb g7 : Nat) (v5 v9 : Value) (wr : World) : Prop :=
  ∃ (k g : Nat) (D : DS) (a1 a2 : Option Addr) (n1 c1 n2 c2 : Nat), k ≤ 40 ∧ v9 = .int .i64 (k : Int) ∧ v5 = .pointer (some ⟨g, 0, none⟩) ∧
    Both [(g7, .cells (refA a1 a2 n1 c1 n2 c2 D) 49)] w0 wr g D (.agg (refA a1 a2 n1 c1 n2 c2 D)) ∧ D.nb = nb ∧ D.uf.length ≤ k ∧ D.n ≤ k

theorem ref_zero (a1 a2 : Option Addr) (n1 c1 n2 c2 : Nat) (D : DS) : (refA a1 a2 n1 c1 n2 c2 D).setIfInBounds 2 (.int .i64 0) = refA a1 a2 n1 c1 n2 c2 D.copy := by
  unfold refA
  rfl

set_option maxRecDepth 100000 in
set_option maxHeartbeats 8000000 in
theorem plays_at (x : Int) (a : Option Addr) (n cap : Nat) (os : List OpV) (w : World) (hl : os.length = n) (hr : RdOp w a os) :
    Calls Try.prog 4 #[.int .i64 x, .slice a n cap] w fun r w' => r = .returned (.bool true) ∧ Below w.heap.size w w' := by
  have HL : Hid (os.length = n) := hl
  have HR : Hid (RdOp w a os) := hr
  clear hl hr
  go_enter Try.func4, Try.ntmps4
  go_wp2_with fail
  refine (pick_at x 6 6 w rfl (by omega) (by omega)).mono ?_
  rintro r u0 ⟨p, hp, rfl, rfl⟩
  obtain ⟨nb, hnb⟩ : ∃ nb, nb = 1 + p := ⟨_, rfl⟩
  have hnb' : (1 : Int) + (p : Int) = (nb : Int) := by omega
  have hn1 : 1 ≤ nb := by omega
  have hn6 : nb ≤ 6 := by omega
  clear hnb hp
  have cN := new_at nb w hn1 (by omega)
  obtain ⟨N0, hN0⟩ : ∃ N, N = nought (nb * 4096) := ⟨_, rfl⟩
  rw [← hN0] at cN
  go_wp2_with fail
  refine cN.mono ?_
  rintro r w1 ⟨g, rfl, F, hd, hF, B1⟩
  clear cN hnb'
  have cR := rnew_at nb w1 (fun i => ¬ F i) (fun i hi h => by have := hd.flt i h; omega) hn1 (by omega)
  rw [← hN0] at cR
  clear hN0
  go_wp2_with fail
  refine cR.mono ?_
  rintro r w2 ⟨gr, cr, rfl, hRD, b2⟩
  clear cR
  obtain ⟨D0, hD0⟩ : ∃ D, D = DS.new nb N0 := ⟨_, rfl⟩
  have hb0 : Both [] w w2 g D0 (.agg (refA (some ⟨gr, 0, none⟩) none nb cr 0 0 D0)) := by
    rw [hD0]
    exact ⟨F, _, _, _, _, _, _, rfl, hd.below b2, hF, B1.trans (b2.mono B1.size), hRD, fun p hp => by cases hp⟩
  have hrA : refA (some ⟨gr, 0, none⟩) none nb cr 0 0 D0 = #[.slice (some ⟨gr, 0, none⟩) nb cr, .slice none 0 0, .int .i64 0, .bool false, .int .i64 (-1), .int .i64 (-1)] := by rw [hD0]; rfl
  have hst : DRel w nb w2.heap.size (.pointer (some ⟨g, 0, none⟩)) (.int .i64 0) (w2.alloc (.cells #[.slice (some ⟨gr, 0, none⟩) nb cr, .slice none 0 0, .int .i64 0, .bool false, .int .i64 (-1), .int .i64 (-1)] 49)) := by
    refine ⟨0, g, D0, some ⟨gr, 0, none⟩, none, nb, cr, 0, 0, by omega, rfl, rfl, ?_, by rw [hD0]; rfl, by rw [hD0]; exact Nat.le_refl _, by rw [hD0]; exact Nat.le_refl _⟩
    have q := hb0.new (refA (some ⟨gr, 0, none⟩) none nb cr 0 0 D0) 49
    rw [← hrA]
    exact q
  have hg7 : Hid (w.heap.size ≤ w2.heap.size) := hb0.all.size
  clear hb0 hrA hD0 hRD b2 hd hF B1
  go_upto_block 0 with fail
  generalize w2.heap.size = g7 at hst hg7 ⊢
  go_cut [5] from 15 (fun v5 u => ∃ v9, DRel w nb g7 v5 v9 u)
  case first =>
   as_aux_lemma =>
   go_wp2_with fail
   go_loopw [5, 9] (fun v5 v9 wr => DRel w nb g7 v5 v9 wr) (fun _ i _ => 40 - (intOf i).toNat)
   case atStart => exact hst
   case round =>
    clear hst
    obtain ⟨ki, g, D, a1, a2, n1, c1, n2, c2, hki, rfl, rfl, hB, hDn, hDu, hDc⟩ := hrel
    by_cases hlt : ki < n ∧ ki < 40
    · obtain ⟨hlt, hlt2⟩ := hlt
      have hkz : ki < os.length := by rw [HL.out]; exact hlt
      obtain ⟨bz, oz, rfl, hblt, hco⟩ := HR.out (by omega)
      obtain ⟨hok, z0, z1, z2, z3, z4, z5⟩ := hco ki hkz
      have Bw := hB.all
      rw [← Bw.cell (p := ⟨bz, oz + ki * 6, none⟩) hblt] at z0
      rw [← Bw.cell (p := ⟨bz, oz + ki * 6 + 1, none⟩) hblt] at z1
      rw [← Bw.cell (p := ⟨bz, oz + ki * 6 + 2, none⟩) hblt] at z2
      rw [← Bw.cell (p := ⟨bz, oz + ki * 6 + 3, none⟩) hblt] at z3
      rw [← Bw.cell (p := ⟨bz, oz + ki * 6 + 4, none⟩) hblt] at z4
      rw [← Bw.cell (p := ⟨bz, oz + ki * 6 + 5, none⟩) hblt] at z5
      generalize (os[ki]'hkz) = ov at hok z0 z1 z2 z3 z4 z5
      clear hco hkz Bw
      obtain ⟨k, nn, sz, bb, ak, nk, ck, m⟩ := ov
      obtain ⟨hnn, hm, ks, hks, hnk, kr, kl⟩ := hok
      dsimp only at hnn hm hks hnk kr kl z0 z1 z2 z3 z4 z5
      have hB1 := hB.new #[.int .i64 k, .int .i64 nn, .int .i64 sz, .int .i64 bb, .slice ak nk ck, .int .u8 (m : Int)] 53
      have by0 := hB1.box (b := wr.heap.size) (cs := #[.int .i64 k, .int .i64 nn, .int .i64 sz, .int .i64 bb, .slice ak nk ck, .int .u8 (m : Int)]) (t := 53) (by simp)
      have bx0 := hB1.box (b := g7) (cs := refA a1 a2 n1 c1 n2 c2 D) (t := 49) (by simp)
      obtain ⟨wv, hwv⟩ : ∃ u, u = wr.alloc (.cells #[.int .i64 k, .int .i64 nn, .int .i64 sz, .int .i64 bb, .slice ak nk ck, .int .u8 (m : Int)] 53) := ⟨_, rfl⟩
      obtain ⟨gv, hgv⟩ : ∃ u, u = wr.heap.size := ⟨_, rfl⟩
      rw [← hwv] at hB1 by0 bx0
      rw [← hgv] at hB1 by0
      have HWV : Hid _ := hwv
      have HGV : Hid _ := hgv
      clear hwv hgv
      go_upto_region 10 with fail
      rw [← HWV.out, ← HGV.out]
      clear z0 z1 z2 z3 z4 z5 HWV HGV hB
      obtain ⟨y0, y1, y2, y3, y4, y5⟩ := by0.all6
      by_cases hk7 : k = 7
      · subst hk7
        have cc := both_copy hB1 (by omega)
        go_wp2_with fail
        refine cc.mono ?_
        rintro r w3 ⟨gc, rfl, hB2⟩
        have bx2 := hB2.box (b := g7) (cs := refA a1 a2 n1 c1 n2 c2 D) (t := 49) (by simp)
        have hB3 := (hB2.less (K' := [(g7, .cells (refA a1 a2 n1 c1 n2 c2 D) 49)]) (by simp)).store hg7.out (by simp) 2 (.int .i64 0)
        rw [ref_zero] at hB3
        have f2 := bx2.frozen 2
        have x2 : w3.cell? ⟨g7, 2, none⟩ = some (.int .i64 (D.n : Int)) := bx2.cell 2
        clear cc hB1 bx2 hB2 by0 bx0 y0 y1 y2 y3 y4 y5
        have HB3 : Hid (Both [(g7, .cells (refA a1 a2 n1 c1 n2 c2 D.copy) 49)] w (w3.setCell ⟨g7, 2, none⟩ (.int .i64 0)) gc D.copy (.agg (refA a1 a2 n1 c1 n2 c2 D.copy))) := hB3
        clear hB3
        go_wp2_with fail
        go_roundw
        case rel => exact ⟨ki + 1, gc, D.copy, a1, a2, n1, c1, n2, c2, by omega, by push_cast; rfl, rfl, HB3.out, hDn, Nat.le_trans hDu (by omega), Nat.zero_le _⟩
        case measure => simp [intOf]; omega
      · have hk7b : (k == 7) = false := by simp [hk7]
        have cc := does_at hB1 k nn sz bb ak nk ck m ks hnn hm hks hnk kr kl (by omega) (by omega)
        have w0' : Box wv g7 #[.slice a1 n1 c1, .slice a2 n2 c2, .int .i64 (D.n : Int), .bool D.gone, .int .i64 (fuseI D.arm), .int .i64 (fuseI D.fail)] 49 := bx0
        obtain ⟨x0, x1, x2, x3, x4, x5⟩ := w0'.all6
        unfold refA at cc
        clear kr kl hks w0' bx0 by0
        go_wp2_with fail
        refine cc.mono ?_
        rintro r w3 ⟨D', v', rfl, hB2, hN⟩
        clear cc hB1 x0 x1 x2 x3 x4 x5 y0 y1 y2 y3 y4 y5
        obtain ⟨hu', hn', hb'⟩ := hN
        have hB3 := hB2.less (K' := [(g7, .cells (refA a1 a2 n1 c1 n2 c2 D) 49)]) (by simp [refA])
        clear hB2
        obtain ⟨F, e1, e2, m1, d1, m2, d2, rfl, hd, f0, Bq, hRD, kk⟩ := hB3
        have hB4 : Both [(g7, .cells (refA a1 a2 n1 c1 n2 c2 D) 49)] w w3 g D' (.agg (refA e1 e2 m1 d1 m2 d2 D')) := ⟨F, e1, e2, m1, d1, m2, d2, rfl, hd, f0, Bq, hRD, kk⟩
        clear hd f0 Bq hRD kk
        have bx3 := hB4.box (b := g7) (cs := refA a1 a2 n1 c1 n2 c2 D) (t := 49) (by simp)
        have bx3' : Box w3 g7 #[.slice a1 n1 c1, .slice a2 n2 c2, .int .i64 (D.n : Int), .bool D.gone, .int .i64 (fuseI D.arm), .int .i64 (fuseI D.fail)] 49 := bx3
        obtain ⟨x0, x1, x2, x3, x4, x5⟩ := bx3'.all6
        have f0 := bx3'.frozen 0
        have f1 := bx3'.frozen 1
        have f2 := bx3'.frozen 2
        have f3 := bx3'.frozen 3
        have f4 := bx3'.frozen 4
        have f5 := bx3'.frozen 5
        have hB5 : Both [(g7, .cells (refA e1 e2 m1 d1 m2 d2 D') 49)] w (set6 w3 g7 (.slice e1 m1 d1) (.slice e2 m2 d2) (.int .i64 (D'.n : Int)) (.bool D'.gone) (.int .i64 (fuseI D'.arm)) (.int .i64 (fuseI D'.fail))) g D' (.agg (refA e1 e2 m1 d1 m2 d2 D')) := Both.set6 hB4 hg7.out _ _ _ _ _ _
        clear hB4 bx3 bx3'
        unfold set6 at hB5
        obtain ⟨W, hW⟩ : ∃ u, u = (((((w3.setCell ⟨g7, 0, none⟩ (.slice e1 m1 d1)).setCell ⟨g7, 1, none⟩ (.slice e2 m2 d2)).setCell ⟨g7, 2, none⟩ (.int .i64 (D'.n : Int))).setCell ⟨g7, 3, none⟩ (.bool D'.gone)).setCell ⟨g7, 4, none⟩ (.int .i64 (fuseI D'.arm))).setCell ⟨g7, 5, none⟩ (.int .i64 (fuseI D'.fail)) := ⟨_, rfl⟩
        rw [← hW] at hB5
        have HW : Hid _ := hW
        clear hW
        unfold refA
        go_upto_region 15 with fail
        rw [← HW.out]
        clear HW x0 x1 x2 x3 x4 x5 f0 f1 f2 f3 f4 f5
        obtain ⟨F, hd, hF0, hRD, hK⟩ := hB5.rd
        have hm2 : m2 = D'.uf.length := hRD.nw
        subst hm2
        have cP := pending_at hd (by omega)
        clear hd hF0 hRD hK
        go_wp2_with fail
        refine cP.mono ?_
        rintro r w4 ⟨vp, rfl, hown, b4⟩
        clear cP
        obtain ⟨ap, cp, rfl⟩ := owns_slice hown
        have hB6 := hB5.below b4
        clear hB5 b4
        have hnb2 : D'.nb = nb := hb'.trans hDn
        have HB6 : Hid (Both [(g7, .cells (refA e1 e2 m1 d1 D'.uf.length d2 D') 49)] w w4 g D' (.agg (refA e1 e2 m1 d1 D'.uf.length d2 D'))) := hB6
        have HOWN : Hid _ := hown
        clear hB6 hown
        go_upto_region 16 with fail
        let C : World → Prop := fun u => Both [(g7, .cells (refA e1 e2 m1 d1 D'.uf.length d2 D') 49)] w u g D' (.agg (refA e1 e2 m1 d1 D'.uf.length d2 D')) ∧ u.ownsRow W.heap.size 3 1 (.slice ap D'.uf.length cp) D'.uf.length (pend D'.uf D'.uf.length)
        have k1 : ∀ x : Of C, x.u.cell? ⟨g7, 1, none⟩ = some (.slice e2 D'.uf.length d2) := fun x => (x.ok.1.box (b := g7) (cs := refA e1 e2 m1 d1 D'.uf.length d2 D') (t := 49) (by simp)).cell 1
        have k2 : ∀ x : Of C, x.u.cell? ⟨g7, 2, none⟩ = some (.int .i64 (D'.n : Int)) := fun x => (x.ok.1.box (b := g7) (cs := refA e1 e2 m1 d1 D'.uf.length d2 D') (t := 49) (by simp)).cell 2
        have cW : ∀ x : Of C, Calls Try.prog 14 #[.pointer (some ⟨g, 0, none⟩)] x.u fun e w' => e = .returned (.int .i64 (D'.n : Int)) ∧ x.u = w' := fun x => both_writes x.ok.1
        have cS : ∀ x : Of C, Calls Try.prog 22 #[.pointer (some ⟨g, 0, none⟩)] x.u fun e w' => e = .returned (.int .i64 (nb : Int)) ∧ x.u = w' := fun x => by
          have := both_size x.ok.1
          rw [hnb2] at this
          exact this
        have same : ∀ x : Of C, ∀ w', x.u = w' → C w' := fun x w' e => e ▸ x.ok
        have out : ∀ x : Of C, Hid (C x.u) := fun x => x.ok
        have hC0 : C w4 := ⟨HB6.out, HOWN.out⟩
        haveI : Nonempty (Of C) := Of.some hC0
        have hC1 : C w4.drew := ⟨hC0.1.below ((Below.refl _ _).drew), hC0.2⟩
        refine wp_region_class C (by kernel_rfl) (by kernel_rfl) hC1 ?_
        clear hC0 hC1 HB6 HOWN
        repeat (go_big_quiet_step (first
          | (go_at_call 14; exact Of.call _ (cW _) (same _))
          | (go_at_call 22; exact Of.call _ (cS _) (same _))))
        refine wpQuiet_nil ?_
        rintro _ ⟨x, rfl⟩
        obtain ⟨hB7, hown⟩ := (out x).out
        clear k1 k2 cW cS same out
        obtain ⟨xu, xok⟩ := x
        dsimp only at hB7 hown ⊢
        clear xok
        clear this C
        have HB7 : Hid (Both [(g7, .cells (refA e1 e2 m1 d1 D'.uf.length d2 D') 49)] w xu g D' (.agg (refA e1 e2 m1 d1 D'.uf.length d2 D'))) := hB7
        have HOWN : Hid (xu.ownsRow W.heap.size 3 1 (.slice ap D'.uf.length cp) D'.uf.length (pend D'.uf D'.uf.length)) := hown
        clear hB7 hown
        go_wp2_with fail
        go_loopw [13] (fun v u => ∃ j : Nat, j ≤ D'.uf.length ∧ v = .int .i64 (j : Int) ∧ Both [(g7, .cells (refA e1 e2 m1 d1 D'.uf.length d2 D') 49)] w u g D' (.agg (refA e1 e2 m1 d1 D'.uf.length d2 D')) ∧ u.ownsRow W.heap.size 3 1 (.slice ap D'.uf.length cp) D'.uf.length (pend D'.uf D'.uf.length)) (fun v _ => D'.uf.length - (intOf v).toNat)
        case atStart => exact ⟨0, Nat.zero_le _, rfl, HB7.out, HOWN.out⟩
        case round =>
          clear HB7 HOWN
          obtain ⟨j, hj, rfl, hB8, hown⟩ := hrel
          have HB8 : Hid (Both [(g7, .cells (refA e1 e2 m1 d1 D'.uf.length d2 D') 49)] w wr g D' (.agg (refA e1 e2 m1 d1 D'.uf.length d2 D'))) := hB8
          have HOWN : Hid (wr.ownsRow W.heap.size 3 1 (.slice ap D'.uf.length cp) D'.uf.length (pend D'.uf D'.uf.length)) := hown
          clear hB8 hown
          by_cases hjl : j < D'.uf.length
          · obtain ⟨gp, rfl, hcp⟩ := owns_cell HOWN.out hjl
            have hpe : (pend D'.uf D'.uf.length)[j]? = some (.int .i64 ((D'.uf[j]'hjl).1 : Int)) := by
              rw [pend_all]
              simp [hjl, ic]
            rw [hpe] at hcp
            obtain ⟨F, hd, hF0, hRD, hK⟩ := HB8.out.rd
            obtain ⟨_, _, _, _, hw2⟩ := hRD.wr
            obtain ⟨gq, oq, rfl, _, _, hcq⟩ := hw2 (by omega)
            have hq := (hcq j (D'.uf[j]'hjl) (List.getElem?_eq_getElem hjl)).1
            have hg1 : wr.cell? ⟨g7, 1, none⟩ = some (.slice (some ⟨gq, oq, none⟩) D'.uf.length d2) := (HB8.out.box (b := g7) (cs := refA e1 (some ⟨gq, oq, none⟩) m1 d1 D'.uf.length d2 D') (t := 49) (by simp)).cell 1
            generalize ((D'.uf[j]'hjl).1 : Int) = bq at hcp hq
            clear hpe hcq hw2 hd hF0 hRD hK
            go_wp2_with fail
            go_quiet (fail)
            clear hcp hq hg1
            have hb9 : Below wr.heap.size wr (wr.drewN nq) := by
              have h := Below.refl wr.heap.size wr
              exact ⟨h.os, h.tape, h.output, h.size, h.block⟩
            go_wp2_with fail
            go_roundw
            case rel => exact ⟨j + 1, by omega, by push_cast; rfl, HB8.out.below hb9, HOWN.out⟩
            case measure => simp [intOf]; omega
          · go_wp2_with fail
            go_roundw
            case rel => exact ⟨ki + 1, g, D', e1, e2, m1, d1, D'.uf.length, d2, by omega, by push_cast; rfl, rfl, HB8.out, hnb2, by omega, by omega⟩
            case measure => simp [intOf]; omega
    · have HDR : Hid (DRel w nb g7 (.pointer (some ⟨g, 0, none⟩)) (.int .i64 (ki : Int)) wr) := ⟨ki, g, D, a1, a2, n1, c1, n2, c2, hki, rfl, rfl, hB, hDn, hDu, hDc⟩
      have hq9 : (ki < n ∧ ¬ ki < 40) ∨ ¬ ki < n := by omega
      clear hB hDn hDu hDc hlt
      rcases hq9 with ⟨q1, q2⟩ | q1
      · go_wp2_with fail
        go_meet
        case rel => exact ⟨_, HDR.out⟩
      · go_wp2_with fail
        go_meet
        case rel => exact ⟨_, HDR.out⟩
  case rest =>
    clear hst
    obtain ⟨v9, ki, g, D, a1, a2, n1, c1, n2, c2, hki, rfl, rfl, hB, hDn, hDu, hDc⟩ := hcut
    have HB : Hid (Both [(g7, .cells (refA a1 a2 n1 c1 n2 c2 D) 49)] w wc g D (.agg (refA a1 a2 n1 c1 n2 c2 D))) := hB
    clear hB
    have hlim : Hid (D.uf.length ≤ 1000000) := by show _ ≤ _; omega
    obtain ⟨F0, hd, hF0, hRD, hK⟩ := HB.out.rd
    have hok := hd.ok
    have hli : Hid (D.image.length = D.nb * 4096) := img_len hok
    have hlc : Hid ((D.copy.crash [] (-1) 0).image.length = (D.copy.crash [] (-1) 0).nb * 4096) := img_len (hd.ok.copy.crash [] (-1) 0)
    have hld : Hid ((D.crash [] (-1) 0).image.length = (D.crash [] (-1) 0).nb * 4096) := img_len (hd.ok.crash [] (-1) 0)
    have hpos : Hid (0 < D.nb * 4096) := by have := hok.lo; show _ < _; omega
    have hsame : Hid (((D.copy.crash [] (-1) 0).image == (D.crash [] (-1) 0).image) = true) := by show (_ == _) = true; exact beq_self_eq_true _
    have hself : Hid ((D.image == D.image) = true) := beq_self_eq_true _
    have cC := copy_at hd (by omega)
    clear HR HL hok hd hF0 hRD hK hDn hDc hDu hki hn1 hn6
    go_wp2_with fail
    refine cC.mono ?_
    rintro r w3 ⟨gc, rfl, Fc, hdc, hFc, b3⟩
    clear cC
    obtain ⟨F, hS⟩ := EndS.new HB.out hdc hFc b3
    clear HB hdc hFc b3 
    obtain ⟨x0, x1, x2, x3, x4, x5⟩ := hS.bx.all6
    have hS0 : Hid (EndS w w3 g gc g7 D D.copy a1 a2 n1 c1 n2 c2 F Fc) := hS
    replace hS := hS.below ((Below.refl _ w3).drew)
    go_upto_region 24 with fail
    go_cut [124] from 15 (fun t u => t = .bool false ∧ ∃ Dc, EndS w u g gc g7 D Dc a1 a2 n1 c1 n2 c2 F Fc)
    case first =>
     as_aux_lemma =>
      clear hS0
      go_region_with (first
              | (go_at_call_of 24 (Value.pointer (some ⟨g, 0, none⟩)); refine (image_at hS.d).mono ?_; rintro e w4 ⟨gi, ci, rfl, hgi, row, b⟩; replace hS := hS.below b; obtain ⟨x0, x1, x2, x3, x4, x5⟩ := hS.bx.all6; clear hgi b)
              | (go_at_call_of 24 (Value.pointer (some ⟨gc, 0, none⟩)); refine (image_at hS.c).mono ?_; rintro e w7 ⟨gi, ci, rfl, hgi, rowc, b⟩; replace hS := hS.below b; obtain ⟨x0, x1, x2, x3, x4, x5⟩ := hS.bx.all6; clear hgi b)
              | (go_at_call 12; refine (crash_at hS.c none 0 0 [] (-1) 0 (by omega) rfl (by omega) (RdBl.nil _ _) (fun ad e _ => by cases e)).mono ?_; rintro e w6 ⟨rfl, hc6, u6⟩; replace hS := hS.upd hc6 u6; obtain ⟨x0, x1, x2, x3, x4, x5⟩ := hS.bx.all6; clear hc6 u6)
              | (go_at_call 31; refine (rcrashD hS.r (fun i hi => ⟨fun h => by have := hS.d.flt i h; omega, fun h => by have := hS.c.flt i h; omega⟩) none 0 0 [] (-1) 0 (by omega) rfl (by omega) (RdBl.nil _ _) hlim.out).mono ?_; rintro e w8 ⟨b1, d1, rfl, hR2, b⟩; unfold refA; replace rowc := RowB.below rowc b; replace hS := hS.below b; obtain ⟨x0, x1, x2, x3, x4, x5⟩ := hS.bx.all6; clear b)
              | (go_at_call 30; refine (rimage_at hR2 _ _ _ _).mono ?_; rintro e w9 ⟨v, rfl, own, b⟩; replace rowc := RowB.below rowc b; replace hS := hS.below b; obtain ⟨x0, x1, x2, x3, x4, x5⟩ := hS.bx.all6; obtain ⟨gq, cq, rfl, _, rowd⟩ := RowB.owns own hpos.out; clear own b)
              | (go_at_call 30; refine (rimage_at hS.r _ _ _ _).mono ?_; rintro e w5 ⟨v, rfl, own, b⟩; replace row := RowB.below row b; replace hS := hS.below b; obtain ⟨x0, x1, x2, x3, x4, x5⟩ := hS.bx.all6; obtain ⟨gq, cq, rfl, _, rowq⟩ := RowB.owns own hpos.out; clear own b)
              | (go_at_call 29; refine (same_at _ _ _ _ _ _ _ _ _ hlc.out hld.out rowc.rd rowd.rd).mono ?_; rintro e w10 ⟨rfl, rfl⟩; rw [hsame.out])
              | (go_at_call 29; refine (same_at _ _ _ _ _ _ _ _ _ hli.out hli.out row.rd rowq.rd).mono ?_; rintro e w10 ⟨rfl, rfl⟩; rw [hself.out]; clear row rowq)
              | (go_at_call 25; refine (awake_any _).mono ?_; rintro e w11 ⟨rfl, b⟩; replace hS := hS.below b; clear b))
      all_goals go_wp2_with fail
      all_goals go_meet
      all_goals exact ⟨rfl, _, hS⟩
    case rest =>
     as_aux_lemma =>
      obtain ⟨rfl, Dc, hS1⟩ := hcut
      clear hS hS0 x0 x1 x2 x3 x4 x5
      obtain ⟨x0, x1, x2, x3, x4, x5⟩ := hS1.bx.all6
      have hS := hS1.below ((Below.refl _ wc).drew)
      clear hS1
      go_wp2_with fail
      go_region_with (first
              | (go_at_call_of 24 (Value.pointer (some ⟨g, 0, none⟩)); refine (image_at hS.d).mono ?_; rintro e w4 ⟨gi, ci, rfl, hgi, row, b⟩; replace hS := hS.below b; obtain ⟨x0, x1, x2, x3, x4, x5⟩ := hS.bx.all6; clear hgi b)
              | (go_at_call_of 24 (Value.pointer (some ⟨gc, 0, none⟩)); refine (image_at hS.c).mono ?_; rintro e w7 ⟨gi, ci, rfl, hgi, rowc, b⟩; replace hS := hS.below b; obtain ⟨x0, x1, x2, x3, x4, x5⟩ := hS.bx.all6; clear hgi b)
              | (go_at_call 12; refine (crash_at hS.c none 0 0 [] (-1) 0 (by omega) rfl (by omega) (RdBl.nil _ _) (fun ad e _ => by cases e)).mono ?_; rintro e w6 ⟨rfl, hc6, u6⟩; replace hS := hS.upd hc6 u6; obtain ⟨x0, x1, x2, x3, x4, x5⟩ := hS.bx.all6; clear hc6 u6)
              | (go_at_call 31; refine (rcrashD hS.r (fun i hi => ⟨fun h => by have := hS.d.flt i h; omega, fun h => by have := hS.c.flt i h; omega⟩) none 0 0 [] (-1) 0 (by omega) rfl (by omega) (RdBl.nil _ _) hlim.out).mono ?_; rintro e w8 ⟨b1, d1, rfl, hR2, b⟩; unfold refA; replace rowc := RowB.below rowc b; replace hS := hS.below b; obtain ⟨x0, x1, x2, x3, x4, x5⟩ := hS.bx.all6; clear b)
              | (go_at_call 30; refine (rimage_at hR2 _ _ _ _).mono ?_; rintro e w9 ⟨v, rfl, own, b⟩; replace rowc := RowB.below rowc b; replace hS := hS.below b; obtain ⟨x0, x1, x2, x3, x4, x5⟩ := hS.bx.all6; obtain ⟨gq, cq, rfl, _, rowd⟩ := RowB.owns own hpos.out; clear own b)
              | (go_at_call 30; refine (rimage_at hS.r _ _ _ _).mono ?_; rintro e w5 ⟨v, rfl, own, b⟩; replace row := RowB.below row b; replace hS := hS.below b; obtain ⟨x0, x1, x2, x3, x4, x5⟩ := hS.bx.all6; obtain ⟨gq, cq, rfl, _, rowq⟩ := RowB.owns own hpos.out; clear own b)
              | (go_at_call 29; refine (same_at _ _ _ _ _ _ _ _ _ hlc.out hld.out rowc.rd rowd.rd).mono ?_; rintro e w10 ⟨rfl, rfl⟩; rw [hsame.out])
              | (go_at_call 29; refine (same_at _ _ _ _ _ _ _ _ _ hli.out hli.out row.rd rowq.rd).mono ?_; rintro e w10 ⟨rfl, rfl⟩; rw [hself.out]; clear row rowq)
              | (go_at_call 25; refine (awake_any _).mono ?_; rintro e w11 ⟨rfl, b⟩; replace hS := hS.below b; clear b))
      all_goals go_wp2_with fail
      all_goals go_ret
      all_goals exact ⟨rfl, hS.B⟩
end Go.Proofs.Ytagnmmapnpcijaa
