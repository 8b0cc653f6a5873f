/-
  The walk of ApartBytes.
-/
import Derived.Test.YtghcmlkgpedkkaaApart
namespace Go.Proofs.Ytghcmlkgpedkkaa.Apart
open Go.RowKit

/-- an append whose run is known, in the walk -/
theorem wpList_append_ran {w : World} {ops : Array Oper} {rest : List Oper} {o : Oper} {a : Act} {Q : Exit → Act → World → Prop} (hgd : o.guard = none) (sl x : Operand) (t u : TypeId)
    (ho : o.op = .call { callee := .builtin .append, args := #[sl, x], argTypes := #[t, u] }) (v s v' : Value) (W : World) (hs : a.eval sl = v) (hx : a.eval x = s)
    (hrun : (Builtin.append_ #[t, u] o.type #[v, s]).run Try.prog w = .ok v' W) (h : wpList Try.prog ops Q rest (a.put o.dst v') W) : wpList Try.prog ops Q (o :: rest) a w := by
  refine wpList_plain hgd fun K hK => ?_
  unfold Oper.wp execOp
  simp only [ho, resolve, invoke, builtin, Sem.run_bind, Sem.run_pure, Result.andThen_ok, List.map_toArray, List.map_cons, List.map_nil, hs, hx, hrun]
  exact hK _ _ h

theorem make_lists (N : Nat) (hN : N ≤ 1000) (u : World) : ∃ cs : Array Value, cs.size = N ∧ (Instr.makeSlice 22 (.int .i64 (N : Int)) (.int .i64 (N : Int))).run Try.prog u = .ok (.slice (some ⟨u.heap.size, 0, none⟩) N N) (u.alloc (.cells cs 31)) := by
  obtain ⟨i0, hi, hz0, hz1, hz2⟩ := info_parts infoB
  have h := run_make (P := Try.prog) u 22 31 i0 (.slice none 0 0) Try.underlying22 hi hz0 .i64 .i64 (N : Int) (N : Int) (by omega) (Int.le_refl _) (by rw [hz2]; omega) (by omega)
  have e : ((N : Int)).toNat = N := by omega
  rw [e, hz1, Nat.mul_one] at h
  exact ⟨_, by simp [madeCells, Value.cells], h⟩

theorem below_drawn (w : World) (n : Nat) : Below w.heap.size w (w.drewN n) := ⟨rfl, rfl, rfl, Nat.le_refl _, fun _ _ => rfl⟩

set_option maxRecDepth 100000 in
set_option maxHeartbeats 8000000 in
theorem apart_at (N gl cl : Nat) (g n c : Nat → Nat) (w : World) (hN : N ≤ 400) (hls : LS w N gl g n c) (hrow : ∀ i, i < N → ∃ cur : Array Value, Box w (g i) cur 5 ∧ cur.size = c i) (hsz : ∀ i, i < N → n i ≤ c i ∧ c i ≤ maxLen ∧ n i ≤ 100000)
    (hap : ∀ i, i < N → ∀ q, q < N → i ≠ q → g i ≠ g q) :
    Calls Try.prog 28 #[.slice (some ⟨gl, 0, none⟩) N cl] w fun e w' => e = .returned (.bool true) ∧ But N g w w' := by
  obtain ⟨cs0, hcs0, hmk⟩ := make_lists N (by omega) w
  have bA := (Below.refl w.heap.size w).alloc (Nat.le_refl _) (.cells cs0 31)
  have I0 : P1 w (w.alloc (.cells cs0 31)) N gl w.heap.size g n c 0 0 := ⟨hls.kept (bA.block _ hls.lt), ⟨cs0, Box.new _ _ _, hcs0⟩, Nat.le_refl _, hls.lt, fun i hi => by
    obtain ⟨cur, hb, hs⟩ := hrow i hi
    have : (if i < 0 then n i else if i = 0 then 0 else 0) = 0 := by split <;> (try split) <;> omega
    rw [this]
    exact ⟨cur, (bA.block _ hb.lt).trans hb, hs, by omega, fun j hj => by omega⟩, (But.refl N g w).below bA⟩
  obtain ⟨gg, hgg⟩ : ∃ gg, gg = w.heap.size := ⟨_, rfl⟩
  obtain ⟨W0, hW0⟩ : ∃ W0, W0 = w.alloc (.cells cs0 31) := ⟨_, rfl⟩
  rw [← hW0] at I0
  rw [← hgg] at I0
  have HW0 : Hid _ := hW0
  have Hgg : Hid _ := hgg
  have Hsz : Hid _ := hsz
  have Hap : Hid _ := hap
  clear hW0 hgg hsz hap bA hcs0 hls hrow
  go_enter Try.func28, Try.ntmps28
  go_wp2_with fail
  rw [← HW0.out, ← Hgg.out]
  clear HW0 Hgg hmk
  go_loopw [4] (fun i wr => ∃ k : Nat, k ≤ N ∧ i = .int .i64 k ∧ P1 w wr N gl gg g n c k 0) (fun i _ => N - (intOf i).toNat)
  case atStart => exact ⟨0, by omega, rfl, I0⟩
  case round =>
    clear I0
    obtain ⟨k, hk, rfl, I⟩ := hrel
    by_cases hlt : k < N
    · have HI : Hid (P1 w wr N gl gg g n c k 0) := I
      obtain ⟨s1, s2, s3⟩ := Hsz.out k hlt
      have gN : (k : Int) < (N : Int) := by omega
      clear I
      go_wp2_with fail
      go_loopw [5] (fun i wr => ∃ j : Nat, j ≤ n k ∧ i = .int .i64 j ∧ P1 w wr N gl gg g n c k j) (fun i _ => n k - (intOf i).toNat)
      case atStart => exact ⟨0, by omega, rfl, HI.out⟩
      case round =>
        clear HI
        obtain ⟨j, hj, rfl, I⟩ := hrel
        have cls := I.ls.cell k hlt
        by_cases hjl : j < n k
        · have HI : Hid (P1 w wr N gl gg g n c k j) := I
          clear I
          go_upto_region 8 with fail
          clear cls
          refine wp_region_any (by kernel_rfl) ?_
          change wpAny _ _ _ _ _ _ _ (World.drew _)
          refine wpAny_take (i := 0) (v := ?_) rfl (by kernel_rfl) (by kernel_rfl) (by kernel_rfl) (fun _ _ _ h => h) (Or.inl ⟨by rfl, ?_⟩) ?_
          rotate_left
          · intro w
            go_simp
            with_reducible rfl
          refine wpAny_take (i := 1) (v := ?_) rfl (by kernel_rfl) (by kernel_rfl) (by kernel_rfl) (fun _ _ _ h => h) (Or.inl ⟨by rfl, ?_⟩) ?_
          rotate_left
          · intro w
            go_simp
            with_reducible rfl
          refine wpAny_take (i := 4) (v := ?_) rfl (by kernel_rfl) (by kernel_rfl) (by kernel_rfl) (fun _ _ _ h => h) (Or.inl ⟨by rfl, ?_⟩) ?_
          rotate_left
          · intro w
            go_simp
            with_reducible rfl
          refine wpAny_take (i := 5) (v := ?_) rfl (by kernel_rfl) (by kernel_rfl) (by kernel_rfl) (fun _ _ _ h => h) (Or.inl ⟨by rfl, ?_⟩) ?_
          rotate_left
          · intro w
            go_simp
            with_reducible rfl
          refine wpAny_take (i := 6) (v := ?_) rfl (by kernel_rfl) (by kernel_rfl) (by kernel_rfl) (fun _ _ _ h => h) (Or.inl ⟨by rfl, ?_⟩) ?_
          rotate_left
          · intro w
            go_simp
            with_reducible rfl
          simp only [Act.put, List.setIfInBounds_toArray, List.set_cons_zero, List.set_cons_succ, List.getElem_toArray, List.getElem_cons_zero, List.getElem_cons_succ]
          have I : P1 w wr.drew N gl gg g n c k j := P1.below HI.out (Below.refl _ _).drew
          clear HI
          obtain ⟨W, hW⟩ : ∃ W, W = wr.drew := ⟨_, rfl⟩
          rw [← hW] at I ⊢
          clear hW
          have cls := I.ls.cell k hlt
          obtain ⟨v0, c0⟩ := (I.here hlt).has j (by omega)
          have f0 := (I.here hlt).frozen j
          have hN9 : N ≤ 400 := hN
          refine wpAny_take (i := 2) (v := ?_) rfl (by kernel_rfl) (by kernel_rfl) (by kernel_rfl) (fun _ _ _ h => h) (Or.inl ⟨by rfl, ?_⟩) ?_
          rotate_left
          · intro w
            go_simp
            with_reducible rfl
          simp only [Act.put, List.setIfInBounds_toArray, List.set_cons_zero, List.set_cons_succ, List.getElem_toArray, List.getElem_cons_zero, List.getElem_cons_succ]
          refine wpAny_of_late (C := SlotsCells [(31, .pointer (some ⟨gl, k, none⟩))] [(⟨gl, k, none⟩, .slice (some ⟨g k, 0, none⟩) (n k) (c k))]) (late := [8, 9]) _ _ _ _ ?_
          refine wpAnyD_take (i := 3) (v := .slice (some ⟨g k, 0, none⟩) (n k) (c k)) rfl (by kernel_rfl) (by kernel_rfl) (by kernel_rfl) (by kernel_rfl) (fun _ _ _ h => h) ?_ (fun fr u h => (SlotsCells.put 32 _ (by rfl)).1 h) (fun fr u h => (SlotsCells.put 32 _ (by rfl)).2 h) ?_ ?_
          · intro fr u hh
            obtain ⟨e1, e2⟩ := hh.load (s := 31) (p := ⟨gl, k, none⟩) (v := .slice (some ⟨g k, 0, none⟩) (n k) (c k)) (by simp) (by simp)
            exact ⟨rfl, by simp [execOp, e1, go_sem, e2]⟩
          · refine ⟨fun p hp => ?_, fun q hq => ?_⟩
            · simp at hp
              subst hp
              rfl
            · simp at hq
              subst hq
              exact cls
          simp only [Act.put, List.setIfInBounds_toArray, List.set_cons_zero, List.set_cons_succ, List.getElem_toArray, List.getElem_cons_zero, List.getElem_cons_succ]
          refine wpAnyD_one (i := 7) (by kernel_rfl) rfl (fun K hK => ?_)
          go_simp
          refine (mark_at k j W (by omega) (by omega)).mono ?_
          rintro e w3 ⟨rfl, rfl⟩
          refine hK _ _ ⟨?_, ?_⟩
          · refine .inr ⟨fun p hp => ?_, fun q hq => ?_⟩
            · simp at hp
              subst hp
              rfl
            · simp at hq
              subst hq
              exact cls
          clear hK K
          refine wpAnyD_one (i := 8) (by kernel_rfl) rfl (fun K hK => ?_)
          go_simp
          refine hK _ _ ⟨.inl rfl, ?_⟩
          clear hK K
          refine wpAnyD_one (i := 9) (by kernel_rfl) rfl (fun K hK => ?_)
          go_simp
          refine hK _ _ ⟨.inl rfl, ?_⟩
          clear hK K
          refine wpAnyD_done (by kernel_rfl) ?_ _
          have I2 := I.step hlt (by omega) Hap.out
          generalize w3.setCell ⟨g k, j, none⟩ (.int .u8 (mrk k j)) = X at I2 ⊢
          clear I cls c0 f0
          go_wp2
          go_roundw
          case rel => exact ⟨j + 1, by omega, by go_num, I2⟩
          case measure => simp [intOf]; omega
        · have hjn : j = n k := by omega
          subst hjn
          have I2 := I.next
          go_wp2
          go_roundw
          case rel => exact ⟨k + 1, by omega, by go_num, I2⟩
          case measure => simp [intOf]; omega
    · have hkN : k = N := by omega
      rw [hkN] at I ⊢
      have J0 := I.grow (fun _ => 0) (fun _ => 0)
      clear I hkN hlt hk
      go_wp2_with fail
      go_loopw [6] (fun i wr => ∃ (k : Nat) (b cb : Nat → Nat), k ≤ N ∧ i = .int .i64 k ∧ P2 w wr N gl gg g n c k b cb) (fun i _ => N - (intOf i).toNat)
      case atStart => exact ⟨0, _, _, by omega, rfl, J0⟩
      case round =>
        clear J0
        obtain ⟨k, b, cb, hk, rfl, J⟩ := hrel
        by_cases hlt : k < N
        · obtain ⟨s1, s2, s3⟩ := Hsz.out k hlt
          have gN : (k : Int) < (N : Int) := by omega
          have cls := J.ls.cell k hlt
          have K0 := J.start hlt s2 Hap.out
          have HK : Hid _ := K0
          clear J K0
          go_wp2_with fail
          clear cls
          go_loopw [7, 8] (fun v i wr => ∃ (j bb cc : Nat), j ≤ 40 ∧ v = .slice (some ⟨bb, 0, none⟩) (n k + j) cc ∧ i = .int .i64 j ∧ P3 w wr N gl gg g n c k b cb bb cc (n k + j)) (fun _ i _ => 40 - (intOf i).toNat)
          case atStart => exact ⟨0, g k, c k, by omega, rfl, rfl, HK.out⟩
          case round =>
            clear HK
            obtain ⟨j, bb, cc, hj, rfl, rfl, J⟩ := hrel
            by_cases hj40 : j < 40
            · have hj2 : (j : Int) < 40 := by omega
              have cls := J.p2.ls.cell k hlt
              have cM := mark_at k (n k + j) wr (by omega) (by omega)
              rw [show ((n k + j : Nat) : Int) = (n k : Int) + (j : Int) by omega] at cM
              have HJ : Hid _ := J
              clear J
              go_wp2_with fail
              refine cM.mono ?_
              rintro e w3 ⟨rfl, rfl⟩
              clear cM cls
              obtain ⟨ga, hga⟩ : ∃ ga, ga = w3.heap.size := ⟨_, rfl⟩
              obtain ⟨V, hV⟩ : ∃ V, V = w3.alloc (.cells #[.int .u8 (mrk k (n k + j))] 5) := ⟨_, rfl⟩
              have bA : Below w3.heap.size w3 V := by rw [hV]; exact (Below.refl _ _).alloc (Nat.le_refl _) _
              have xV : V.cell? ⟨ga, 0, none⟩ = some (.int .u8 (mrk k (n k + j))) := by rw [hV, hga]; exact (Box.new w3 #[.int .u8 (mrk k (n k + j))] 5).cell 0
              have JV := P3.below HJ.out bA
              obtain ⟨b', cc', w4, hrun, m4, l4, hw4⟩ := JV.cur.append JV.lim 31 ga xV (by omega)
              have J4 := JV.grown hlt (by omega) b' cc' m4 l4 hw4
              have HV : Hid _ := hV
              have HG : Hid _ := hga
              have HJ4 : Hid _ := J4
              clear hV hga J4 JV m4 l4 hw4 xV bA HJ
              go_wp2_with (rw [← HG.out, ← HV.out]; at_builtin; refine wpList_append_ran rfl _ _ 31 31 rfl _ _ _ w4 rfl rfl hrun ?_)
              go_roundw
              case rel => exact ⟨j + 1, b', cc', by omega, rfl, by go_num, HJ4.out⟩
              case measure => simp [intOf]; omega
            · have hj4 : j = 40 := by omega
              subst j
              have J2 := J.put hlt
              obtain ⟨cs, hb, hs, _⟩ := J.p2.gs
              have cg : wr.cell? ⟨gg, k, none⟩ = some (cs[k]'(by omega)) := by rw [hb.cell k, Array.getElem?_eq_getElem]
              have fg := hb.frozen k
              generalize (cs[k]'(by omega)) = vg at cg
              clear J hb
              go_wp2
              go_roundw
              case rel => exact ⟨k + 1, _, _, by omega, by go_num, J2⟩
              case measure => simp [intOf]; omega
        · have hkN : k = N := by omega
          rw [hkN] at J ⊢
          clear hkN hlt hk
          go_wp2_with fail
          go_loopw [9] (fun i wr => ∃ k : Nat, k ≤ N ∧ i = .int .i64 k ∧ P2 w wr N gl gg g n c N b cb) (fun i _ => N - (intOf i).toNat)
          case atStart => exact ⟨0, by omega, rfl, J⟩
          case round =>
            clear J
            obtain ⟨k, hk, rfl, J⟩ := hrel
            by_cases hlt : k < N
            · obtain ⟨s1, s2, s3⟩ := Hsz.out k hlt
              have gN : (k : Int) < (N : Int) := by omega
              have HJ : Hid _ := J
              clear J
              go_wp2_with fail
              go_loopw [10] (fun i wr => ∃ j : Nat, j ≤ n k + 40 ∧ i = .int .i64 j ∧ P2 w wr N gl gg g n c N b cb) (fun i _ => n k + 40 - (intOf i).toNat)
              case atStart => exact ⟨0, by omega, rfl, HJ.out⟩
              case round =>
                clear HJ
                obtain ⟨j, hj, rfl, J⟩ := hrel
                have cg := J.gsCell k hlt
                have cl0 := J.ls.cell k hlt
                by_cases hjl : j < n k + 40
                · have c1 := (J.big k hlt).cell j hjl
                  obtain ⟨_, _, _, bl, _⟩ := J.big k hlt
                  have cM := fun q => mark_at k j (wr.drewN q) (by omega) (by omega)
                  have HJ : Hid (P2 w wr N gl gg g n c N b cb) := J
                  by_cases hjn : j < n k
                  · have c2 := (J.row k hlt).cell j hjn
                    clear J
                    go_upto_region 24 with fail
                    go_quiet (exact Calls.quiet_of_same (cM _))
                    have J5 := P2.below HJ.out (below_drawn wr nq)
                    generalize wr.drewN nq = X at J5 ⊢
                    clear HJ cM c1 c2 cg cl0
                    go_wp2
                    go_roundw
                    case rel => exact ⟨j + 1, by omega, by go_num, J5⟩
                    case measure => simp [intOf]; omega
                  · have hjn2 : ¬ (j : Int) < (n k : Int) := by omega
                    clear J
                    go_upto_region 24 with fail
                    go_quiet (exact Calls.quiet_of_same (cM _))
                    have J5 := P2.below HJ.out (below_drawn wr nq)
                    generalize wr.drewN nq = X at J5 ⊢
                    clear HJ cM c1 cg cl0
                    go_wp2
                    go_roundw
                    case rel => exact ⟨j + 1, by omega, by go_num, J5⟩
                    case measure => simp [intOf]; omega
                · have hjn : j = n k + 40 := by omega
                  subst hjn
                  go_wp2
                  go_roundw
                  case rel => exact ⟨k + 1, by omega, by go_num, J⟩
                  case measure => simp [intOf]; omega
            · have hkN : k = N := by omega
              rw [hkN]
              have hb := J.but
              clear J
              go_wp2
              go_ret
              exact ⟨rfl, hb⟩
end Go.Proofs.Ytghcmlkgpedkkaa.Apart
