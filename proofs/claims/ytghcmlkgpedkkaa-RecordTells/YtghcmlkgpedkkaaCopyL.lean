/-
  CopyLists: blocks in memory of their own.
-/
import Derived.Test.YtghcmlkgpedkkaaLow
namespace Go.Proofs.Ytghcmlkgpedkkaa
open Go.RowKit

def lstC (ps : List GG) : List Value := ps.map fun p => .slice (some ⟨p.h, 0, none⟩) 4096 p.c

set_option maxRecDepth 100000 in
set_option maxHeartbeats 1000000 in
theorem copyLists_at (a : Option Addr) (n cap : Nat) (ls : List (List UInt8)) (w : World) (hl : ls.length = n) (hn : n ≤ 1000) (hL : Lsts w a ls) (h4 : ∀ x ∈ ls, x.length = 4096) :
    Calls Try.prog 10 #[.slice a n cap] w fun r w' => ∃ v ps, r = .returned v ∧ w'.ownsRow w.heap.size 31 1 v n (lstC ps) ∧ GetJ w.heap.size w' ps ∧ ps.map GG.xs = ls ∧ Below w.heap.size w w' := by
  obtain ⟨j0, ji, jz0, jz1, jz2⟩ := info_parts info31
  have HL : Hid (ls.length = n) := hl
  have HLL : Hid (Lsts w a ls) := hL
  have H4 : Hid (∀ x ∈ ls, x.length = 4096) := h4
  clear hl hL h4
  go_enter Try.func10, Try.ntmps10
  go_wp2_with fail
  go_loopw [3, 4] (fun v i u => ∃ (k : Nat) (ps : List GG), k ≤ n ∧ i = .int .i64 (k : Int) ∧ u.ownsRow w.heap.size 31 1 v k (lstC ps) ∧ GetJ w.heap.size u ps ∧ ps.map GG.xs = ls.take k ∧ Below w.heap.size w u) (fun _ i _ => n - (intOf i).toNat)
  case atStart => exact ⟨0, [], Nat.zero_le _, rfl, World.ownsRow_nil _ _ _ _, ⟨fun p hp => (by cases hp), List.nodup_nil⟩, by simp, Below.refl _ _⟩
  case round =>
    obtain ⟨k, ps, hk, rfl, hown, hJ, hps, B⟩ := hrel
    have HPS : Hid (ps.map GG.xs = ls.take k) := hps
    have HJ : Hid (GetJ w.heap.size wr ps) := hJ
    have HOWN : Hid _ := hown
    clear hps hJ
    obtain ⟨av, cv, rfl⟩ := owns_shape hown
    by_cases hlt : k < n
    · have k1 : k < ls.length := by rw [HL.out]; exact hlt
      obtain ⟨b, o, rfl, hc⟩ := HLL.out (by omega)
      obtain ⟨x, cx, g1, g2, g3, g4, g5⟩ := hc k k1
      have lb : b < w.heap.size := block_lt_of_cell g1
      rw [← B.cell (p := ⟨b, o + k, none⟩) lb] at g1
      have r1 := g5.below B (Nat.le_refl _)
      have hx4 : (ls[k]'k1).length = 4096 := H4.out _ (List.getElem_mem k1)
      have hstep : Hid (ls.take (k + 1) = ls.take k ++ [ls[k]'k1]) := List.take_succ_eq_append_getElem k1
      generalize (ls[k]'k1) = xs at g1 g2 r1 hx4 hstep
      rw [hx4] at g1 g2
      have cC := copyBytes_at cx 4096 x xs wr hx4 (by omega) r1 g4
      have HX4 : Hid (xs.length = 4096) := hx4
      clear hc g2 g3 g4 g5 lb r1 hx4 hown
      go_wp2_with fail
      refine cC.mono ?_
      rintro r W ⟨v, rfl, hv, bW⟩
      clear cC g1
      obtain ⟨gx, cp, rfl, hgx, hrow⟩ := RowB.owns hv (by omega)
      have J2 : GetJ w.heap.size W (ps ++ [⟨0, xs, gx, cp⟩]) := HJ.out.snoc bW ⟨0, xs, gx, cp⟩ hrow hgx HX4.out B.size
      have own1 := owns_below HOWN.out bW
      have B1 := B.trans (bW.mono B.size)
      have al := (Below.refl W.heap.size W).alloc (Nat.le_refl _) (.cells #[.slice (some ⟨gx, 0, none⟩) 4096 cp] 31)
      have bN := Box.new W #[.slice (some ⟨gx, 0, none⟩) 4096 cp] 31
      replace own1 := owns_below own1 al
      replace J2 := J2.below al
      replace B1 := B1.trans (al.mono B1.size)
      have hcN : ∀ j u, ([.slice (some ⟨gx, 0, none⟩) 4096 cp] : List Value)[j]? = some u → (W.alloc (.cells #[.slice (some ⟨gx, 0, none⟩) 4096 cp] 31)).cell? ((⟨W.heap.size, 0, none⟩ : Addr).add j) = some u := fun j u hj => by
        rw [Addr.add_lit, Nat.zero_add, bN.cell j]
        simpa using hj
      clear hv hrow HJ HOWN bW
      go_wp2_with (at_builtin; refine wpList_append_own _ rfl _ _ 22 rfl w.heap.size 31 j0 (.slice none 0 0) 1 24 Try.underlying22 ji jz0 jz1 jz2 rfl (by decide) _ k _ rfl own1 ⟨W.heap.size, 0, none⟩ 1 1 [.slice (some ⟨gx, 0, none⟩) 4096 cp] rfl rfl hcN ?c2 ?c3 ?c4 B1.size ?_)
      case c2 => intro u hu; simp at hu; subst hu; rfl
      case c3 => unfold maxLen; omega
      case c4 => omega
      intro v' w4 own4 hg4 _
      have J4 := J2.grown own1 (by decide) hg4
      have B4 := B1.grown hg4 B1.size (fun j e => (owns_block own1 j e).1)
      have own5 : w4.ownsRow w.heap.size 31 1 v' (k + 1) (lstC (ps ++ [⟨0, xs, gx, cp⟩])) := by
        have e : lstC (ps ++ [⟨0, xs, gx, cp⟩]) = lstC ps ++ [.slice (some ⟨gx, 0, none⟩) 4096 cp] := by simp [lstC]
        rw [e]
        exact own4
      clear own1 J2 B1 bN al hcN hg4 own4
      go_wp2_with fail
      go_roundw
      case rel => exact ⟨k + 1, _, by omega, by push_cast; rfl, own5, J4, by rw [List.map_append, HPS.out, hstep.out]; rfl, B4⟩
      case measure => simp [intOf]; omega
    · have hke : k = n := by omega
      rw [hke] at HOWN HPS ⊢
      clear hke hlt hk hown
      go_wp2_with fail
      go_ret
      exact ⟨_, ps, rfl, HOWN.out, HJ.out, by rw [HPS.out]; exact List.take_of_length_le (by rw [HL.out]; omega), B⟩
end Go.Proofs.Ytghcmlkgpedkkaa
