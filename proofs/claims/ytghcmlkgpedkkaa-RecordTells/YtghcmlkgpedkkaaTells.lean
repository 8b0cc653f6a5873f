/-
  RecordTells' walk.
-/
import Derived.Test.YtghcmlkgpedkkaaRGet
import Derived.Test.YtghcmlkgpedkkaaAwake
namespace Go.Proofs.Ytghcmlkgpedkkaa
open Go.RowKit

def cpL (ps : List CP) : List Value := ps.map CP.v
theorem lsts_cp {w : World} {B m : Nat} {a : Option Addr} {n c : Nat} {ps : List CP} (ho : w.ownsRow B 31 1 (.slice a n c) m (cpL ps)) (hj : CpJ B w ps) (hm : ps.length = m) : Lsts w a (ps.map CP.xs) := fun h0 => by
  have hq : 0 < ps.length := by simpa using h0
  obtain ⟨g, rfl, _, _, hc⟩ := owns_cells ho (by omega)
  refine ⟨g, 0, rfl, fun j hjl => ?_⟩
  have hjq : j < ps.length := by simpa using hjl
  obtain ⟨ax, cx, hv, _, h2, h3, h4, h5⟩ := owns_rd (hj.rows ps[j] (List.getElem_mem hjq))
  have hn := owns_nil (hj.rows ps[j] (List.getElem_mem hjq)) hv
  rw [List.getElem_map]
  refine ⟨ax, cx, ?_, h2, cap_le h3, hn, h4⟩
  rw [Nat.zero_add, hc j (by omega)]
  simp [cpL, hjq, hv]

set_option maxRecDepth 100000 in
set_option maxHeartbeats 1000000 in
theorem copyListsA_at (a : Option Addr) (n cap : Nat) (ls : List (List UInt8)) (w : World) (hl : ls.length = n) (hn : n ≤ 1000) (hL : Lsts w a ls) (h47 : ∀ x ∈ ls, x.length ≤ 140737488355328) :
    Calls Try.prog 10 #[.slice a n cap] w fun r w' => ∃ a' c', r = .returned (.slice a' n c') ∧ Lsts w' a' ls ∧ Below w.heap.size w w' := by
  obtain ⟨j0, ji, jz0, jz1, jz2⟩ := info_parts info31
  have HL : Hid (ls.length = n) := hl
  have HLL : Hid (Lsts w a ls) := hL
  have H4 : Hid (∀ x ∈ ls, x.length ≤ 140737488355328) := h47
  clear hl hL h47
  go_enter Try.func10, Try.ntmps10
  go_wp2_with fail
  go_loopw [3, 4] (fun v i u => ∃ (k : Nat) (ps : List CP), k ≤ n ∧ i = .int .i64 (k : Int) ∧ u.ownsRow w.heap.size 31 1 v k (cpL ps) ∧ CpJ w.heap.size u ps ∧ ps.map CP.xs = ls.take k ∧ Below w.heap.size w u) (fun _ i _ => n - (intOf i).toNat)
  case atStart => exact ⟨0, [], Nat.zero_le _, rfl, World.ownsRow_nil _ _ _ _, ⟨fun p hp => (by cases hp), List.Pairwise.nil⟩, by simp, Below.refl _ _⟩
  case round =>
    obtain ⟨k, ps, hk, rfl, hown, hJ, hps, B⟩ := hrel
    have HPS : Hid (ps.map CP.xs = ls.take k) := hps
    have HJ : Hid (CpJ w.heap.size wr ps) := hJ
    have HOWN : Hid (wr.ownsRow w.heap.size 31 1 u3 k (cpL ps)) := hown
    clear hps hJ
    obtain ⟨av, cv, rfl⟩ := owns_shape hown
    by_cases hlt : k < n
    · have k1 : k < ls.length := by rw [HL.out]; exact hlt
      obtain ⟨b, o, rfl, hc⟩ := HLL.out (by omega)
      obtain ⟨x, cx, g1, g2, g3, g4, g5⟩ := hc k k1
      have lb : b < w.heap.size := block_lt_of_cell g1
      rw [← B.cell (p := ⟨b, o + k, none⟩) lb] at g1
      have r1 := g5.below B (Nat.le_refl _)
      have hx4 := H4.out _ (List.getElem_mem k1)
      have hstep : Hid (ls.take (k + 1) = ls.take k ++ [ls[k]'k1]) := List.take_succ_eq_append_getElem k1
      generalize (ls[k]'k1) = xs at g1 g2 r1 hx4 hstep
      have cC := copyBytes_at cx xs.length x xs wr rfl hx4 r1 g4
      clear hc g2 g3 g4 g5 lb r1 hown
      go_wp2_with fail
      refine cC.mono ?_
      rintro r W ⟨v, rfl, hv, bW⟩
      clear cC g1
      obtain ⟨ax, cz, rfl⟩ := owns_shape hv
      have J2 : CpJ w.heap.size W (ps ++ [⟨0, xs, .slice ax xs.length cz⟩]) := HJ.out.snoc bW ⟨0, xs, .slice ax xs.length cz⟩ hv B.size
      have own1 := owns_below HOWN.out bW
      have B1 := B.trans (bW.mono B.size)
      have al := (Below.refl W.heap.size W).alloc (Nat.le_refl _) (.cells #[.slice ax xs.length cz] 31)
      have bN := Box.new W #[.slice ax xs.length cz] 31
      replace own1 := owns_below own1 al
      replace J2 := J2.below al
      replace B1 := B1.trans (al.mono B1.size)
      have hcN : ∀ j u, ([.slice ax xs.length cz] : List Value)[j]? = some u → (W.alloc (.cells #[.slice ax xs.length cz] 31)).cell? ((⟨W.heap.size, 0, none⟩ : Addr).add j) = some u := fun j u hj => by
        rw [Addr.add_lit, Nat.zero_add, bN.cell j]
        simpa using hj
      clear hv HJ HOWN bW
      go_wp2_with (at_builtin; refine wpList_append_own _ rfl _ _ 22 rfl w.heap.size 31 j0 (.slice none 0 0) 1 24 Try.underlying22 ji jz0 jz1 jz2 rfl (by decide) _ k _ rfl own1 ⟨W.heap.size, 0, none⟩ 1 1 [.slice ax xs.length cz] rfl rfl hcN ?c2 ?c3 ?c4 B1.size ?_)
      case c2 => intro u hu; simp at hu; subst hu; rfl
      case c3 => unfold maxLen; omega
      case c4 => omega
      intro v' w4 own4 hg4 _
      have J4 := J2.grown own1 (by decide) hg4
      have B4 := B1.grown hg4 B1.size (fun j e => (owns_block own1 j e).1)
      have own5 : w4.ownsRow w.heap.size 31 1 v' (k + 1) (cpL (ps ++ [⟨0, xs, .slice ax xs.length cz⟩])) := by
        have e : cpL (ps ++ [⟨0, xs, .slice ax xs.length cz⟩]) = cpL ps ++ [.slice ax xs.length cz] := by simp [cpL]
        rw [e]
        exact own4
      clear own1 J2 B1 bN al hcN hg4 own4
      go_wp2_with fail
      go_roundw
      case rel => exact ⟨k + 1, _, by omega, by push_cast; rfl, own5, J4, by rw [List.map_append, HPS.out, hstep.out]; rfl, B4⟩
      case measure => simp [intOf]; omega
    · have hke : k = n := by omega
      have hpl : ps.length = k := by
        have := congrArg List.length HPS.out
        rw [List.length_map, List.length_take, HL.out] at this
        omega
      have hLs := lsts_cp HOWN.out HJ.out hpl
      rw [HPS.out, List.take_of_length_le (by rw [HL.out]; omega)] at hLs
      rw [hke] at ⊢
      clear hke hlt hk hown
      go_wp2_with fail
      go_ret
      exact ⟨_, _, rfl, hLs, B⟩

open Classical in
/-- what Put answers: the blocks and the error -/
noncomputable def putA (e s : Int) (is : List (Int × List UInt8)) : List (List UInt8) × Int := if okGroup e s is then (putL e.toNat s.toNat is, 0) else ([], 80)
theorem PutR.one {w w' : World} {e s : Int} {is : List (Int × List UInt8)} {n : Nat} {r : Ending} (h : PutR w e s is n r w') (hl : is.length = n) : ∃ a c, r = .returned (.tuple #[.slice a (putA e s is).1.length c, .int .i64 (putA e s is).2]) ∧ Lsts w' a (putA e s is).1 ∧ Below w.heap.size w w' := by
  unfold putA
  rcases h with ⟨E, S, rfl, rfl, hok, gl, cl, rfl, hL, b⟩ | ⟨hno, rfl, b⟩
  · rw [if_pos hok, Int.toNat_natCast, Int.toNat_natCast]
    exact ⟨_, cl, by rw [putL_length, hl], hL, b⟩
  · rw [if_neg hno]
    exact ⟨none, 0, rfl, fun h => by simp at h, b⟩
theorem putA_len (e s : Int) (is : List (Int × List UInt8)) : (putA e s is).1.length ≤ 33 := by
  unfold putA
  split
  · rename_i h
    show (putL e.toNat s.toNat is).length ≤ 33
    rw [putL_length]
    have := (is_length' h).2
    omega
  · simp
open Classical in
/-- what Get answers: epoch, number, images, error -/
noncomputable def getA (ls : List (List UInt8)) : (Int × Int) × List (Int × List UInt8) × Int :=
  if isGrp ls then (((saidE (ls[0]?.getD []) : Int), (saidS (ls[0]?.getD []) : Int)), imgsTo ls (saidEs (ls[0]?.getD [])) (saidEs (ls[0]?.getD [])).length, 0) else ((0, 0), [], 80)
theorem getA_len (ls : List (List UInt8)) : (getA ls).2.1.length ≤ 32 := by
  unfold getA
  split
  · rename_i h
    have := h.2.1.2.1.2.1.2
    rw [List.length_map] at this
    simpa [imgsTo] using this
  · simp
def GetO (w : World) (ls : List (List UInt8)) (r : Ending) (w' : World) : Prop := ∃ a c, r = .returned (.tuple #[.agg #[.int .i64 (getA ls).1.1, .int .i64 (getA ls).1.2, .slice a (getA ls).2.1.length c], .int .i64 (getA ls).2.2]) ∧ Imgs w' a (getA ls).2.1 ∧ Below w.heap.size w w'
theorem GetR.one {w w' : World} {ls : List (List UInt8)} {r : Ending} (h : GetR w ls r w') : GetO w ls r w' := by
  unfold GetO getA
  rcases h with ⟨hg, a, c, ps, rfl, ho, hj, hm, b⟩ | ⟨hg, rfl, b⟩
  · rw [if_pos hg]
    refine ⟨a, c, by simp [imgsTo], ?_, b⟩
    have hpl : ps.length = (saidEs (ls[0]?.getD [])).length := by
      have := congrArg List.length hm
      simpa [imgsTo] using this
    have := imgs_of ho hj hpl
    rwa [hm] at this
  · rw [if_neg hg]
    exact ⟨none, 0, rfl, fun h => by simp at h, b⟩
theorem RGetR.one {w w' : World} {ls : List (List UInt8)} {r : Ending} (h : RGetR w ls r w') : GetO w ls r w' := by
  unfold GetO getA
  rcases h with ⟨hg, a, c, rfl, hI, b⟩ | ⟨hg, rfl, b⟩
  · rw [if_pos hg]
    exact ⟨a, c, by simp [imgsTo], hI, b⟩
  · rw [if_neg hg]
    exact ⟨none, 0, rfl, fun h => by simp at h, b⟩
theorem get_one (a : Option Addr) (n cap : Nat) (ls : List (List UInt8)) (w : World) (hl : ls.length = n) (hn : n ≤ 1000000000) (hL : Lsts w a ls) : Calls Try.prog 11 #[.slice a n cap] w (GetO w ls) := by
  by_cases h0 : 0 < n
  · exact (get_in a n cap ls w hl h0 hn hL).mono fun r w' h => h.one
  · obtain rfl : n = 0 := by omega
    obtain rfl : ls = [] := List.eq_nil_of_length_eq_zero hl
    exact (get_none a cap w).mono fun r w' h => h.one
theorem rget_one (a : Option Addr) (n cap : Nat) (ls : List (List UInt8)) (w : World) (hl : ls.length = n) (hn : n ≤ 1000000000) (hL : Lsts w a ls) : Calls Try.prog 21 #[.slice a n cap] w (GetO w ls) := by
  by_cases h0 : 0 < n
  · exact (rget_in a n cap ls w hl h0 hn hL).mono fun r w' h => h.one
  · obtain rfl : n = 0 := by omega
    obtain rfl : ls = [] := List.eq_nil_of_length_eq_zero hl
    exact (rget_none a cap w).mono fun r w' h => h.one
open Classical in
/-- what Head answers -/
noncomputable def headA (xs : List UInt8) : (Int × Int) × Int × Bool := if isHead xs then (((saidE xs : Int), (saidS xs : Int)), ((saidEs xs).length : Int), true) else ((0, 0), 0, false)
theorem HeadR.one {w w' : World} {xs : List UInt8} {r : Ending} (h : HeadR w xs r w') : r = .returned (.tuple #[.int .i64 (headA xs).1.1, .int .i64 (headA xs).1.2, .int .i64 (headA xs).2.1, .bool (headA xs).2.2]) ∧ Below w.heap.size w w' := by
  unfold headA
  rcases h with ⟨hh, rfl, b⟩ | ⟨hh, rfl, b⟩
  · rw [if_pos hh]
    exact ⟨rfl, b⟩
  · rw [if_neg hh]
    exact ⟨rfl, b⟩
end Go.Proofs.Ytghcmlkgpedkkaa
