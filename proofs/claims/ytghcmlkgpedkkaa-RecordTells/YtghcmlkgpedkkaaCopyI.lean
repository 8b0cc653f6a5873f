/-
  CopyImages: images in memory of their own, whatever their lengths.
-/
import Derived.Test.YtghcmlkgpedkkaaAny
import Derived.Deep.RegionHeld3
import Derived.Deep.AppendLies
namespace Go.Proofs.Ytghcmlkgpedkkaa
open Go.RowKit

/-- an image that was copied: its data are v -/
structure CP where
  b : Int
  xs : List UInt8
  v : Value
def cpC (ps : List CP) : List Value := ps.flatMap fun p => [.int .i64 p.b, p.v]
theorem cpC_length (ps : List CP) : (cpC ps).length = ps.length * 2 := by
  unfold cpC
  induction ps with
  | nil => rfl
  | cons p ps ih => simp [ih]; omega
theorem cpC_at (ps : List CP) (i : Nat) (h : i < ps.length) : (cpC ps)[i * 2]? = some (.int .i64 ps[i].b) ∧ (cpC ps)[i * 2 + 1]? = some ps[i].v := by
  induction ps generalizing i with
  | nil => simp at h
  | cons p ps ih =>
    cases i with
    | zero => exact ⟨rfl, rfl⟩
    | succ i =>
      obtain ⟨h1, h2⟩ := ih i (by simpa using h)
      have e : (cpC (p :: ps)) = .int .i64 p.b :: p.v :: cpC ps := rfl
      rw [e, show (i + 1) * 2 = i * 2 + 1 + 1 by omega]
      simp only [List.getElem?_cons_succ]
      exact ⟨h1, h2⟩
structure CpJ (B : Nat) (W : World) (ps : List CP) : Prop where
  rows : ∀ p ∈ ps, W.ownsRow B 5 1 p.v p.xs.length (bcs p.xs)
  apart : ps.Pairwise fun p q => ∀ g, p.v.ownBlock = some g → q.v.ownBlock ≠ some g
theorem CpJ.below {B : Nat} {W W' : World} {ps : List CP} (h : CpJ B W ps) (hb : Below W.heap.size W W') : CpJ B W' ps := ⟨fun p hp => owns_below (h.rows p hp) hb, h.apart⟩
theorem CpJ.grown {B base e size n : Nat} {W W' : World} {ps : List CP} {v : Value} {xs : List Value} (h : CpJ B W ps) (ho : W.ownsRow base e size v n xs) (he : (5 : TypeId) ≠ e) (hg : W.grownBy W' v.ownBlock) : CpJ B W' ps :=
  ⟨fun p hp => owns_grown (h.rows p hp) hg (fun g h1 h2 => by
    obtain ⟨_, c1, b1⟩ := owns_block (h.rows p hp) g h1
    obtain ⟨_, c2, b2⟩ := owns_block ho g h2
    exact Box.ne b1 b2 he rfl), h.apart⟩
theorem CpJ.snoc {B : Nat} {W W' : World} {ps : List CP} (h : CpJ B W ps) (hb : Below W.heap.size W W') (p : CP) (hp : W'.ownsRow W.heap.size 5 1 p.v p.xs.length (bcs p.xs)) (hB : B ≤ W.heap.size) : CpJ B W' (ps ++ [p]) := by
  refine ⟨fun q hq => ?_, ?_⟩
  · rcases List.mem_append.1 hq with hq | hq
    · exact owns_below (h.rows q hq) hb
    · rw [List.mem_singleton.1 hq]
      exact owns_base hp hB
  · rw [List.pairwise_append]
    refine ⟨h.apart, List.pairwise_singleton _ _, fun q hq r hr g h1 h2 => ?_⟩
    rw [List.mem_singleton.1 hr] at h2
    obtain ⟨_, c1, b1⟩ := owns_block (h.rows q hq) g h1
    obtain ⟨k1, _⟩ := owns_block hp g h2
    have := b1.lt
    omega
theorem owns_nil {w : World} {B n : Nat} {v : Value} {xs : List Value} {a : Option Addr} {m c : Nat} (h : w.ownsRow B 5 1 v n xs) (hv : v = .slice a m c) : a = none → c = 0 := by
  intro ha
  rcases h.2 with ⟨h1, _⟩ | ⟨g, cap, cur, h1, _⟩
  · rw [hv] at h1
    simp at h1
    exact h1.2.2
  · rw [hv, ha] at h1
    simp at h1
theorem imgs_cp {w : World} {B m : Nat} {a : Option Addr} {n c : Nat} {ps : List CP} (ho : w.ownsRow B 38 2 (.slice a n c) m (cpC ps)) (hj : CpJ B w ps) (hm : ps.length = m) : Imgs w a (ps.map fun p => (p.b, p.xs)) := fun h0 => by
  have hq : 0 < ps.length := by simpa using h0
  obtain ⟨g, rfl, _, _, hc⟩ := owns_cells ho (by omega)
  refine ⟨g, 0, rfl, fun j hjl => ?_⟩
  have hjq : j < ps.length := by simpa using hjl
  obtain ⟨ax, cx, hv, _, h2, h3, h4, h5⟩ := owns_rd (hj.rows ps[j] (List.getElem_mem hjq))
  have hn := owns_nil (hj.rows ps[j] (List.getElem_mem hjq)) hv
  obtain ⟨k0, k1⟩ := cpC_at ps j hjq
  rw [List.getElem_map]
  refine ⟨?_, ax, cx, ?_, h2, cap_le h3, hn, h4⟩
  · show w.cell? ⟨g, 0 + j * 2, none⟩ = _
    rw [Nat.zero_add, hc _ (by omega), k0]
  · show w.cell? ⟨g, 0 + j * 2 + 1, none⟩ = _
    rw [Nat.zero_add, hc _ (by omega), k1, hv]

set_option maxRecDepth 100000 in
set_option maxHeartbeats 4000000 in
theorem copyImages_at (a : Option Addr) (n cap : Nat) (is : List (Int × List UInt8)) (w : World) (hl : is.length = n) (hn : n * 32 ≤ 140737488355328) (hI : Imgs w a is) (h47 : ∀ i ∈ is, i.2.length ≤ 140737488355328) :
    Calls Try.prog 19 #[.slice a n cap] w fun r w' => ∃ a' c' ps, r = .returned (.slice a' n c') ∧ w'.ownsRow w.heap.size 38 2 (.slice a' n c') n (cpC ps) ∧ CpJ w.heap.size w' ps ∧ ps.map (fun p => (p.b, p.xs)) = is ∧ Below w.heap.size w w' := by
  obtain ⟨i0, hi, hz0, hz1, hz2⟩ := info_parts info38
  have HL : Hid (is.length = n) := hl
  have HII : Hid (Imgs w a is) := hI
  have H47 : Hid (∀ i ∈ is, i.2.length ≤ 140737488355328) := h47
  clear hl hI h47
  go_enter Try.func19, Try.ntmps19
  go_wp2_with fail
  go_loopw [3, 4] (fun v i u => ∃ (k : Nat) (ps : List CP), k ≤ n ∧ i = .int .i64 (k : Int) ∧ u.ownsRow w.heap.size 38 2 v k (cpC ps) ∧ CpJ w.heap.size u ps ∧ ps.map (fun p => (p.b, p.xs)) = is.take k ∧ Below w.heap.size w u) (fun _ i _ => n - (intOf i).toNat)
  case atStart => exact ⟨0, [], Nat.zero_le _, rfl, World.ownsRow_nil _ _ _ _, ⟨fun p hp => (by cases hp), List.Pairwise.nil⟩, by simp, Below.refl _ _⟩
  case round =>
    obtain ⟨k, ps, hk, rfl, hown, hJ, hps, B⟩ := hrel
    have HPS : Hid (ps.map (fun p => (p.b, p.xs)) = is.take k) := hps
    have HJ : Hid (CpJ w.heap.size wr ps) := hJ
    have HOWN : Hid (wr.ownsRow w.heap.size 38 2 u3 k (cpC ps)) := hown
    clear hps hJ
    obtain ⟨av, cv, rfl⟩ := owns_shape hown
    by_cases hlt : k < n
    · have k1 : k < is.length := by rw [HL.out]; exact hlt
      obtain ⟨b, o, rfl, hc⟩ := HII.out (by omega)
      obtain ⟨g0, x, cx, g1, g2, g3, g4, g5⟩ := hc k k1
      have lb : b < w.heap.size := block_lt_of_cell g1
      have h47 := H47.out _ (List.getElem_mem k1)
      have hstep : Hid (is.take (k + 1) = is.take k ++ [is[k]'k1]) := List.take_succ_eq_append_getElem k1
      generalize (is[k]'k1) = X at g0 g1 g2 g5 h47 hstep
      obtain ⟨bx, xs⟩ := X
      dsimp only at g0 g1 g2 g5 h47
      have HS : Hid (∀ u : World, Below w.heap.size w u → u.cell? ⟨b, o + k * 2, none⟩ = some (.int .i64 bx) ∧ u.cell? ⟨b, o + k * 2 + 1, none⟩ = some (.slice x xs.length cx) ∧ Hid (Below w.heap.size w u)) := fun u hu =>
        ⟨(hu.cell (p := ⟨b, o + k * 2, none⟩) lb).trans g0, (hu.cell (p := ⟨b, o + k * 2 + 1, none⟩) lb).trans g1, hu⟩
      have cC := copyBytes_at cx xs.length x xs wr.drew rfl h47 ((g5.below B (Nat.le_refl _)).below ((Below.refl wr.heap.size wr).drew) (Nat.le_refl _)) g4
      have hk0 : (0 : Int) ≤ (k : Int) := by omega
      have hki : (k : Int) < (n : Int) := by omega
      clear hc g0 g1 g2 g3 g4 g5 lb hown
      go_wp2_with fail
      go_region_held3 (fun u => u.cell? ⟨b, o + k * 2, none⟩ = some (.int .i64 bx) ∧ u.cell? ⟨b, o + k * 2 + 1, none⟩ = some (.slice x xs.length cx) ∧ Hid (Below w.heap.size w u))
        (first | with_reducible exact HS.out _ B.drew | with_reducible exact HS.out _ B1 | with_reducible exact HS.out _ B2 | with_reducible exact HS.out _ (B1.alloc B1.size _))
        (first
          | (go_at_call 33; refine Calls.mono cC ?_; rintro r W ⟨v, rfl, hv, bW⟩
             obtain ⟨ax, cz, rfl⟩ := owns_shape hv
             have J2 : Hid (CpJ w.heap.size W (ps ++ [⟨bx, xs, .slice ax xs.length cz⟩])) := ((HJ.out.below ((Below.refl wr.heap.size wr).drew)).snoc bW ⟨bx, xs, .slice ax xs.length cz⟩ hv B.size)
             have O2 : Hid (W.ownsRow w.heap.size 38 2 (.slice av k cv) k (cpC ps)) := owns_below (owns_below HOWN.out ((Below.refl wr.heap.size wr).drew)) bW
             have B1 := B.drew.trans (bW.mono B.size)
             clear hv bW cC B)
          | ((refine step_append_lies _ (by rfl) _ _ _ (by rfl) w.heap.size 38 i0 _ 2 32 Try.underlying26 hi hz0 hz1 hz2 rfl (by omega) (.slice av k cv) k (cpC ps) (by rfl) (owns_below O2.out ((Below.refl _ W).alloc (Nat.le_refl _) _))
                ⟨W.heap.size, 0, none⟩ 1 1 [.int .i64 bx, .slice ax xs.length cz] (by rfl) (by rfl) (World.news_of_block (cs := #[.int .i64 bx, .slice ax xs.length cz]) (t := 38) (fr := (0, 0)) (heap_alloc_new W _)) (by intro u hu; simp at hu; rcases hu with rfl | rfl <;> rfl)
                (by omega) (by unfold maxLen; omega) (by omega) (by simp; exact Nat.le_succ_of_le B1.size) (W.heap.size + 1) (by simp) ?_)
             intro gg gc w1 hown1 hgrow hat hlt1
             have B2 := (B1.alloc B1.size (.cells #[.int .i64 bx, .slice ax xs.length cz] 38)).grown hgrow (by simp; exact Nat.le_succ_of_le B1.size) (fun j e => (owns_block O2.out j e).1)
             have J3 : Hid (CpJ w.heap.size w1 (ps ++ [⟨bx, xs, .slice ax xs.length cz⟩])) := (J2.out.below ((Below.refl _ W).alloc (Nat.le_refl _) (.cells #[.int .i64 bx, .slice ax xs.length cz] 38))).grown (owns_below O2.out ((Below.refl _ W).alloc (Nat.le_refl _) _)) (by decide) hgrow
             clear hgrow hat hlt1))
      have O5 : Hid (w1.ownsRow w.heap.size 38 2 (.slice (some ⟨gg, 0, none⟩) (k + 1) gc) (k + 1) (cpC (ps ++ [⟨bx, xs, .slice ax xs.length cz⟩]))) := by
        have e : cpC (ps ++ [⟨bx, xs, .slice ax xs.length cz⟩]) = cpC ps ++ [.int .i64 bx, .slice ax xs.length cz] := by simp [cpC]
        rw [e]
        exact hown1
      clear hown1 J2 O2 B1
      go_wp2_with fail
      go_roundw
      case rel => exact ⟨k + 1, _, by omega, by push_cast; rfl, O5.out, J3.out, by rw [List.map_append, HPS.out, hstep.out]; rfl, B2⟩
      case measure => simp [intOf]; omega
    · have hke : k = n := by omega
      rw [hke] at HOWN HPS ⊢
      clear hke hlt hk hown
      go_wp2_with fail
      go_ret
      exact ⟨_, _, ps, rfl, HOWN.out, HJ.out, by rw [HPS.out]; exact List.take_of_length_le (by rw [HL.out]; omega), B⟩
end Go.Proofs.Ytghcmlkgpedkkaa
