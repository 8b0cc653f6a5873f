/-
  The document's own PutNode.
-/
import Derived.Test.YtmhplpiglbamcaaRefExts
namespace Go.Proofs.Ytmhplpiglbamcaa
open Go.RowKit

theorem refPutNode_long (a : Option Addr) (cap n : Nat) (es : List Ext) (w : World) (hl : es.length = n) (hn : n ≤ 9223372036854775807) (h : 250 < n) :
    Calls Try.prog 24 #[.slice a n cap] w fun r w' => Puts w w' (putNode es) r := by
  have e : putNode es = none := by unfold putNode; rw [hl, decide_eq_false (by omega)]; rfl
  rw [e]
  clear hl
  go_enter Try.func24, Try.ntmps24
  go_wp2
  go_ret2
  exact ⟨_, rfl, World.ownsRow_nil _ _ _ _, Below.refl _ _⟩

set_option maxRecDepth 100000 in
set_option maxHeartbeats 1000000 in
theorem refPutNode_short (a : Option Addr) (cap n : Nat) (es : List Ext) (w : World) (hl : es.length = n) (hn : n ≤ 250) (hw : ∀ e ∈ es, wfE e) (hr : RdE w a es) :
    Calls Try.prog 24 #[.slice a n cap] w fun r w' => Puts w w' (putNode es) r := by
  have c1 := refRight_at cap n a es w hl (by omega) hw hr
  have hd : decide (n ≤ 250) = true := by simpa using hn
  have hnot : ¬ (250 < (n : Int)) := by omega
  cases hq : rightFrom 0 es
  · have e : putNode es = none := by unfold putNode; rw [hq]; simp
    rw [e]
    rw [hq] at c1
    clear hl
    go_enter Try.func24, Try.ntmps24
    go_wp2_with fail
    refine c1.mono ?_
    rintro r w1 ⟨rfl, b1⟩
    go_wp2
    go_ret2
    exact ⟨_, rfl, World.ownsRow_nil _ _ _ _, b1⟩
  · have e : putNode es = some (nodeB es) := by unfold putNode; rw [hq, hl, hd]; rfl
    have hnat := natE_of_right es 0 (by omega) hq
    have hlen := nodeB_length es (by omega)
    have hbl : Hid ((bodyN es).length = 4088) := bodyN_length es (by omega)
    have hxl : Hid ((extsB es).length = n * 6) := by rw [← hl]; exact extsB_length es
    have hbody : Hid (extsB es ++ noughts (4088 - n * 6) = bodyN es) := by rw [← hl]; exact rfl
    have hnode : Hid (nodeB es = (toBE 2 n ++ toBE 2 0) ++ (toBE 4 (crc 0 (bodyN es)) ++ bodyN es)) := by rw [← hl]; exact rfl
    rw [e]
    rw [hq] at c1
    have Hl : Hid _ := hl
    clear hl e
    go_enter Try.func24, Try.ntmps24
    go_wp2_with fail
    refine c1.mono ?_
    rintro r w1 ⟨rfl, b1⟩
    have hr1 := hr.below b1 (Nat.le_refl _)
    go_wp2_with fail
    refine (refextents_at w.heap.size cap n 0 a (.slice none 0 0) [] es w1 Hl.out (by omega) (by omega) hnat hr1 b1.size (World.ownsRow_nil _ _ _ _)).mono ?_
    rintro r w2 ⟨v2, rfl, o2, b2⟩
    have B2 := b1.trans (b2.mono b1.size)
    rw [Nat.zero_add, List.nil_append] at o2
    clear c1 hr1 b1 b2
    obtain ⟨i0, hi, hz0, hz1, hz2⟩ := info_parts info5
    have p2 : w2.ownsRow w.heap.size 5 1 v2 (n * 6 + 0) (bcs (extsB es ++ noughts 0)) := by simpa [noughts] using o2
    clear o2
    go_wp2_with fail
    go_loopw [4] (fun v wr => ∃ k : Nat, k ≤ 4088 - n * 6 ∧ wr.ownsRow w.heap.size 5 1 v (n * 6 + k) (bcs (extsB es ++ noughts k)) ∧ Below w.heap.size w wr) (fun v _ => match v with | .slice _ n _ => 4096 - n | _ => 0)
    case atStart => exact ⟨0, Nat.zero_le _, p2, B2⟩
    case round =>
      obtain ⟨k, hk, hown, hbel⟩ := hrel
      clear p2 B2
      obtain ⟨ak, ck, rfl, hlk, _, _, rk, nk, _⟩ := owns_parts hown
      have Hlk : Hid _ := hlk
      clear hlk
      by_cases hlt : k < 4088 - n * 6
      · have z3 := hbel.size
        have hlt2 : ((n * 6 + k : Nat) : Int) < 4088 := by omega
        clear rk nk
        go_wp2_with (at_builtin; refine wpList_append_own _ rfl _ _ 22 rfl w.heap.size 5 i0 (.int .u8 0) 1 1 Try.underlying22 hi hz0 hz1 hz2 rfl (by decide) _ (n * 6 + k) (bcs (extsB es ++ noughts k)) rfl (hown.alloc _) ⟨wr.heap.size, 0, none⟩ 1 1 [.int .u8 0] rfl rfl ?c1 ?c2 ?c3 ?c4 ?c5 ?_)
        case c1 =>
          intro i u hi'
          match i, hi' with
          | 0, hi' => simp at hi'; subst hi'; simp [Addr.add]
        case c2 => intro u hu; simp at hu; subst hu; rfl
        case c3 => unfold maxLen; omega
        case c4 => omega
        case c5 => simp; omega
        · intro v' w7 hown7 hgrow _
          have B7 : Below w.heap.size w w7 := (hbel.alloc z3 _).grown hgrow (by simp; omega) (fun k hk => (hown.lt k hk).1)
          have p7 : w7.ownsRow w.heap.size 5 1 v' (n * 6 + (k + 1)) (bcs (extsB es ++ noughts (k + 1))) := by
            have h : extsB es ++ noughts (k + 1) = (extsB es ++ noughts k) ++ [0] := by simp [noughts, List.replicate_succ']
            rw [h, bcs_append]
            exact hown7
          obtain ⟨a7, c7, rfl, _, _, _, _, _, _⟩ := owns_parts p7
          clear hown hbel hgrow hown7
          go_wp2
          go_roundw
          case rel => exact ⟨k + 1, by omega, p7, B7⟩
          case measure => simp; omega
      · obtain rfl : k = 4088 - n * 6 := by omega
        rw [hbody.out] at rk Hlk
        have e4 : n * 6 + (4088 - n * 6) = 4088 := by omega
        rw [e4] at Hlk ⊢
        clear hown hk hlt e4
        go_wp2_with fail
        refine (refadd_at 0 0 2 none [] n _ 2 wr rfl rfl rfl (by omega) (by omega) (by omega) (by omega) (Rd.nil _ _) (fun _ => rfl)).mono ?_
        rintro r w4 ⟨v4, rfl, o4, b4⟩
        have B4 := hbel.trans (b4.mono hbel.size)
        have rk4 := rk.below b4 (Nat.le_refl _)
        obtain ⟨a4, c4, rfl, hl4, _, _, r4, n4, _⟩ := owns_parts o4
        have Hl4 : Hid _ := hl4
        clear o4 b4 rk hl4 hbel
        go_wp2_with fail
        refine (refadd_at c4 (0 + 2) 2 a4 ([] ++ toBE 2 n) 0 _ 2 w4 rfl rfl Hl4.out (by omega) (by omega) (by omega) (by omega) r4 n4).mono ?_
        rintro r w5 ⟨v5, rfl, o5, b5⟩
        have B5 := B4.trans (b5.mono B4.size)
        have rk5 := rk4.below b5 (Nat.le_refl _)
        obtain ⟨a5, c5, rfl, hl5, _, _, r5, n5, _⟩ := owns_parts o5
        have Hl5 : Hid _ := hl5
        clear o5 b5 rk4 hl5 B4 r4 n4
        have hcl := crc_lt 0 (bodyN es)
        have k5 := ref_at ck 4088 ak (bodyN es) 0 0 w5 rfl hbl.out (by omega) (by omega) rk5
        obtain ⟨X, hX⟩ : ∃ X, X = crc 0 (bodyN es) := ⟨_, rfl⟩
        rw [← hX] at hcl k5
        have HX : Hid _ := hX
        clear hX
        go_wp2_with fail
        refine k5.mono ?_
        rintro r w6 ⟨rfl, rfl⟩
        clear k5
        go_wp2_with fail
        refine (refadd_at c5 (0 + 2 + 2) 4 a5 ([] ++ toBE 2 n ++ toBE 2 0) X _ 4 w5 rfl rfl Hl5.out (by omega) (by omega) (by omega) (by omega) r5 n5).mono ?_
        rintro r w6 ⟨v6, rfl, o6, b6⟩
        have B6 := B5.trans (b6.mono B5.size)
        have rk6 := rk5.below b6 (Nat.le_refl _)
        have o6' := owns_weaken o6 B5.size
        have z6 := B6.size
        obtain ⟨a6, c6, rfl, _⟩ := owns_parts o6
        clear o6 b6 rk5 B5 r5 n5
        go_wp2_with (at_builtin; refine wpList_append_bytes rfl _ _ rfl w.heap.size _ (0 + 2 + 2 + 4) _ rfl o6' ak 4088 ck (bodyN es) rfl hbl.out rk6 nk (by omega) z6 ?_)
        intro v8 w8 o8 g8
        have B8 := B6.grown g8 z6 (fun k hk => (o6'.lt k hk).1)
        rw [← bcs_append] at o8
        clear o6' g8 B6 rk6
        go_wp2
        go_ret2
        refine ⟨_, rfl, ?_, B8⟩
        show World.ownsRow _ _ _ _ _ (nodeB es).length (bcs (nodeB es))
        rw [hlen, hnode.out, ← HX.out]
        simpa using o8

/-- the document's PutNode is super's -/
theorem refPutNode_at (cap n : Nat) (a : Option Addr) (es : List Ext) (w : World) (hl : es.length = n) (hn : n ≤ 9223372036854775807) (hw : ∀ e ∈ es, wfE e) (hr : RdE w a es) :
    Calls Try.prog 24 #[.slice a n cap] w fun r w' => Puts w w' (putNode es) r := by
  by_cases h : n ≤ 250
  · exact refPutNode_short a cap n es w hl h hw hr
  · exact refPutNode_long a cap n es w hl hn (by omega)
end Go.Proofs.Ytmhplpiglbamcaa
