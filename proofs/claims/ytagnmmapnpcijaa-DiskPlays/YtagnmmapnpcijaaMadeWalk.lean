/-
  The walk of made.
-/
import Derived.Test.YtagnmmapnpcijaaMadeList
import Derived.Test.YtagnmmapnpcijaaLate
import Derived.Deep.Cut
namespace Go.Proofs.Ytagnmmapnpcijaa
open Go.RowKit

/-- an append whose run is known, in the walk -/
theorem wpList_append_ran {w : World} {ops : Array Oper} {rest : List Oper} {o : Oper} {a : Act} {Q : Exit → Act → World → Prop} (hgd : o.guard = none) (sl x : Operand) (t u : TypeId)
    (ho : o.op = .call { callee := .builtin .append, args := #[sl, x], argTypes := #[t, u] }) (v s v' : Value) (W : World) (hs : a.eval sl = v) (hx : a.eval x = s)
    (hrun : (Builtin.append_ #[t, u] o.type #[v, s]).run Try.prog w = .ok v' W) (h : wpList Try.prog ops Q rest (a.put o.dst v') W) : wpList Try.prog ops Q (o :: rest) a w := by
  refine wpList_plain hgd fun K hK => ?_
  unfold Oper.wp execOp
  simp only [ho, resolve, invoke, builtin, Sem.run_bind, Sem.run_pure, Result.andThen_ok, List.map_toArray, List.map_cons, List.map_nil, hs, hx, hrun]
  exact hK _ _ h

theorem MRel.mono {w0 w : World} {g gs i j : Nat} (h : MRel w0 w g gs i) (hij : i ≤ j) : MRel w0 w g gs j := by
  obtain ⟨D, F, gf, vf, h1, h2, h3, h4, h5, h6, h7, h8⟩ := h
  exact ⟨D, F, gf, vf, h1, h2, h3, h4, h5, h6, by omega, by omega⟩
theorem sinceOf_length (D : DS) (k : Nat) : (sinceOf D k).length ≤ D.uf.length + 1 := by
  unfold sinceOf
  simp only [List.length_cons, List.length_map]
  have := List.length_filter_le (fun w : Nat × List UInt8 => w.1 == k) D.uf
  omega

theorem info46 : (Try.prog.info? 46).map (fun i => (i.zero, i.size, i.bytes)) = some (some (.slice none 0 0), 1, 24) := by kernel_rfl
theorem make72_run (u : World) : (Instr.makeSlice 72 (.int .i64 4) (.int .i64 4)).run Try.prog u = .ok (.slice (some ⟨u.heap.size, 0, none⟩) 4 4) (u.alloc (.cells #[.slice none 0 0, .slice none 0 0, .slice none 0 0, .slice none 0 0] 46)) := by
  obtain ⟨i0, hi, hz0, hz1, hz2⟩ := info_parts info46
  have h := run_make (P := Try.prog) u 72 46 i0 (.slice none 0 0) Try.underlying72 hi hz0 .i64 .i64 4 4 (by omega) (Int.le_refl _) (by rw [hz2]; omega) (by omega)
  rw [hz1, Nat.mul_one] at h
  have e : madeCells (Value.slice none 0 0).cells (Int.toNat 4) = #[.slice none 0 0, .slice none 0 0, .slice none 0 0, .slice none 0 0] := by kernel_rfl
  rw [e] at h
  exact h

set_option maxRecDepth 100000 in
set_option maxHeartbeats 4000000 in
theorem made_walk (a : Option Addr) (n cap : Nat) (zs : List Int) (w : World) (hl : zs.length = n) (_hn : n ≤ 9223372036854775807) (hr : RdI w a zs) :
    Calls Try.prog 33 #[.slice a n cap] w fun e w' => ∃ g gs, e = .returned (.tuple #[.pointer (some ⟨g, 0, none⟩), .slice (some ⟨gs, 0, none⟩) 4 4]) ∧ MRel w w' g gs 30 := by
  have cN := new_at 4 w (by omega) (by omega)
  have hm := make72_run
  obtain ⟨x0, hx0⟩ : ∃ x0, x0 = fill 0 := ⟨_, rfl⟩
  obtain ⟨N0, hN0⟩ : ∃ N0, N0 = nought (4 * 4096) := ⟨_, rfl⟩
  rw [← hN0] at cN
  have Hl : Hid _ := hl
  have Hr : Hid _ := hr
  have Hx : Hid _ := hx0
  have HN : Hid _ := hN0
  clear hl hr hx0 hN0
  go_enter Try.func33, Try.ntmps33
  go_wp2_with fail
  refine cN.mono ?_
  rintro e w1 ⟨g, rfl, F, hd, hF, B1⟩
  clear cN
  have bA := B1.alloc B1.size (.cells #[.slice none 0 0, .slice none 0 0, .slice none 0 0, .slice none 0 0] 46)
  have dA := hd.below ((Below.refl _ _).alloc (Nat.le_refl _) (.cells #[.slice none 0 0, .slice none 0 0, .slice none 0 0, .slice none 0 0] 46))
  have sA : SK w (w1.alloc (.cells #[.slice none 0 0, .slice none 0 0, .slice none 0 0, .slice none 0 0] 46)) F w1.heap.size 0 x0 (fun _ => 0) (fun _ => .slice none 0 0) :=
    ⟨Box.new _ _ _, fun h => by have := hd.flt _ h; omega, B1.size, fun i hi => by omega, fun i hi => by omega, fun i hi => by omega⟩
  obtain ⟨gs, hgs⟩ : ∃ gs, gs = w1.heap.size := ⟨_, rfl⟩
  obtain ⟨w2, hw2⟩ : ∃ w2, w2 = w1.alloc (.cells #[.slice none 0 0, .slice none 0 0, .slice none 0 0, .slice none 0 0] 46) := ⟨_, rfl⟩
  rw [← hw2] at bA dA sA
  rw [← hgs] at sA
  have Hw2 : Hid _ := hw2
  have Hgs : Hid _ := hgs
  clear hw2 hgs hd B1
  go_wp2_with fail
  rw [← Hw2.out, ← Hgs.out]
  clear Hw2 Hgs hm
  go_loopw [7] (fun i wr => ∃ (k : Nat) (gf : Nat → Nat) (vf : Nat → Value), k ≤ 4 ∧ i = .int .i64 k ∧ IsDisk wr g (DS.new 4 N0) F ∧ SK w wr F gs k x0 gf vf ∧ Below w.heap.size w wr) (fun i _ => 4 - (intOf i).toNat)
  case atStart => exact ⟨0, _, _, by omega, rfl, dA, sA, bA⟩
  case round =>
    obtain ⟨k, gf, vf, hk, rfl, hd, hs, B⟩ := hrel
    clear dA sA bA
    by_cases hlt : k < 4
    · have Hs : Hid _ := hs
      have Hd : Hid (IsDisk wr g (DS.new 4 N0) F) := hd
      have HB : Hid _ := B
      have cell := hs.box.cell k
      rw [four_get vf k hlt] at cell
      have fz := hs.box.frozen k
      have gslt : gs < wr.heap.size := hs.box.lt
      have cF := filled_at 0 0 wr rfl
      rw [← Hx.out] at cF
      clear hs hd B
      go_wp2_with fail
      refine cF.mono ?_
      rintro e w3 ⟨ga, rfl, hga, o, b3⟩
      clear cF
      have hx4 : x0.length = 4096 := by rw [Hx.out]; exact fill_length 0
      have s3 := Hs.out.step hlt hx4 b3 ga o hga HB.out.size (fun i hi => Hd.out.flt i hi)
      have cell3 : (w3.alloc (.cells #[.slice (some ⟨ga, 0, none⟩) 4096 4096] 27)).cell? ⟨gs, k, none⟩ = some (vf k) := by
        have := (Hs.out.box.below b3).alloc (.cells #[.slice (some ⟨ga, 0, none⟩) 4096 4096] 27)
        rw [this.cell k, four_get vf k hlt]
      have fz3 : (w3.alloc (.cells #[.slice (some ⟨ga, 0, none⟩) 4096 4096] 27)).frozen? ⟨gs, k, none⟩ = false := ((Hs.out.box.below b3).alloc _).frozen k
      have d3 : IsDisk ((w3.alloc (.cells #[.slice (some ⟨ga, 0, none⟩) 4096 4096] 27)).setCell ⟨gs, k, none⟩ (.slice (some ⟨w3.heap.size, 0, none⟩) 1 1)) g (DS.new 4 N0) F := ((Hd.out.below b3).below ((Below.refl _ _).alloc (Nat.le_refl _) _)).storeOut gs k _ Hs.out.gsF
      have B3 : Below w.heap.size w ((w3.alloc (.cells #[.slice (some ⟨ga, 0, none⟩) 4096 4096] 27)).setCell ⟨gs, k, none⟩ (.slice (some ⟨w3.heap.size, 0, none⟩) 1 1)) := by
        have q := HB.out.trans (b3.mono HB.out.size)
        exact (q.alloc q.size _).setCell (p := ⟨gs, k, none⟩) Hs.out.gs0 _
      clear cell fz b3 o hga
      go_wp2_with fail
      go_roundw
      case rel => exact ⟨k + 1, _, _, by omega, by go_num, d3, s3, B3⟩
      case measure => simp [intOf]; omega
    · have hk4 : k = 4 := by omega
      rw [hk4] at hs
      have hk4' : (k : Int) = 4 := by omega
      rw [hk4']
      have hS : Since w wr F gs (sinceOf (DS.new 4 N0)) gf vf := hs.since _ (fun i hi => by
        show [blk N0 i] = [x0]
        rw [HN.out, Hx.out, nought, blk_nought _ _ (by omega)])
      have hM : MRel w wr g gs 0 := ⟨_, F, gf, vf, hd, hF, B, hS, DS.new_quiet _ _, rfl, Nat.le_refl _, Nat.le_refl _⟩
      clear hS hs hd B hF HN Hx hk4 hk4' hk hlt
      go_wp2_with fail
      go_loopw [8] (fun i wr => ∃ k : Nat, k ≤ 30 ∧ i = .int .i64 k ∧ MRel w wr g gs k) (fun i _ => 30 - (intOf i).toNat)
      case atStart => exact ⟨0, by omega, rfl, hM⟩
      case round =>
        clear hM
        obtain ⟨k, hk, rfl, hM⟩ := hrel
        by_cases hlt : k < n ∧ k < 30
        · obtain ⟨hlt, hlt3⟩ := hlt
          obtain ⟨D, F', gf, vf, hd, hF, B, hS, hq, hnb, hu, hn'⟩ := hM
          have hkz : k < zs.length := by rw [Hl.out]; exact hlt
          obtain ⟨b, oo, rfl, hcz⟩ := Hr.out (by omega)
          have cz := hcz k hkz
          have blt : b < w.heap.size := block_lt_of_cell cz
          have cz' : wr.cell? ⟨b, oo + k, none⟩ = some (.int .i64 zs[k]) := by rw [B.cell (p := ⟨b, oo + k, none⟩) blt]; exact cz
          generalize (zs[k]'hkz) = z at cz'
          clear cz hcz hkz
          have Hd : Hid (IsDisk wr g D F') := hd
          have HS : Hid _ := hS
          have HF : Hid _ := hF
          have HB : Hid _ := B
          have Hq : Hid D.quiet := hq
          have Hn : Hid _ := hnb
          have Hu : Hid _ := hu
          have Hn' : Hid _ := hn'
          clear hd hS hF B hq hnb hu hn'
          go_wp2_with fail
          refine (pick_at z 1000003 _ _ rfl (by omega) (by omega)).mono ?_
          rintro e w4 ⟨p, hp, rfl, rfl⟩
          clear cz'
          by_cases h6 : p % 6 = 0
          · have e6 : ((p : Int) % 6 == 0) = true := by simp; omega
            clear h6
            have cf := flush_at Hd.out
            rw [Hq.out.operE] at cf
            go_wp2_with fail
            refine cf.mono ?_
            rintro e w5 ⟨rfl, hd5, u5⟩
            clear cf
            have B5 := HB.out.trans (u5.below HF.out HB.out.size)
            have S5 := HS.out.upd u5 (fun _ h => .inl h)
            rw [← cutTo_zero] at S5
            rw [Hq.out.flush] at hd5
            have H5 : Hid _ := hd5
            clear hd5 u5
            go_wp2_with fail
            go_loopw [10] (fun i wr => ∃ (j : Nat) (vf : Nat → Value), j ≤ 4 ∧ i = .int .i64 j ∧ Since w wr F' gs (cutTo D j) gf vf ∧ IsDisk wr g { D with dur := D.image, uf := [] } F' ∧ Below w.heap.size w wr) (fun i _ => 4 - (intOf i).toNat)
            case atStart => exact ⟨0, vf, by omega, rfl, S5, H5.out, B5⟩
            case round =>
              clear S5 H5 B5 HS HB
              obtain ⟨j, vf', hj, rfl, hS, hd, B⟩ := hrel
              by_cases hlj : j < 4
              · have hlj2 : (j : Int) < 4 := by omega
                have Hd5 : Hid (IsDisk wr g { D with dur := D.image, uf := [] } F') := hd
                have HS5 : Hid _ := hS
                have HB5 : Hid _ := B
                clear hd hS B
                go_upto_region 19 with fail
                refine wp_region_any (by kernel_rfl) ?_
                change wpAny _ _ _ _ _ _ _ (World.drew _)
                refine wpAny_take (i := 0) (v := ?_) rfl (by kernel_rfl) (by kernel_rfl) (by kernel_rfl) (fun _ _ _ h => h) (Or.inl ⟨by rfl, ?_⟩) ?_
                rotate_left
                · intro w
                  go_simp
                  with_reducible rfl
                refine wpAny_take (i := 1) (v := ?_) rfl (by kernel_rfl) (by kernel_rfl) (by kernel_rfl) (fun _ _ _ h => h) (Or.inl ⟨by rfl, ?_⟩) ?_
                rotate_left
                · intro w
                  go_simp
                  with_reducible rfl
                refine wpAny_take (i := 2) (v := ?_) rfl (by kernel_rfl) (by kernel_rfl) (by kernel_rfl) (fun _ _ _ h => h) (Or.inl ⟨by rfl, ?_⟩) ?_
                rotate_left
                · intro w
                  go_simp
                  with_reducible rfl
                refine wpAny_take (i := 3) (v := ?_) rfl (by kernel_rfl) (by kernel_rfl) (by kernel_rfl) (fun _ _ _ h => h) (Or.inl ⟨by rfl, ?_⟩) ?_
                rotate_left
                · intro w
                  go_simp
                  with_reducible rfl
                refine wpAny_take (i := 6) (v := ?_) rfl (by kernel_rfl) (by kernel_rfl) (by kernel_rfl) (fun _ _ _ h => h) (Or.inl ⟨by rfl, ?_⟩) ?_
                rotate_left
                · intro w
                  go_simp
                  with_reducible rfl
                refine wpAny_take (i := 7) (v := ?_) rfl (by kernel_rfl) (by kernel_rfl) (by kernel_rfl) (fun _ _ _ h => h) (Or.inl ⟨by rfl, ?_⟩) ?_
                rotate_left
                · intro w
                  go_simp
                  with_reducible rfl
                simp only [Act.put, List.setIfInBounds_toArray, List.set_cons_zero, List.set_cons_succ, List.getElem_toArray, List.getElem_cons_zero, List.getElem_cons_succ]
                have hS : Since w wr.drew F' gs (cutTo D j) gf vf' := HS5.out.below (Below.refl _ _).drew
                have hd : IsDisk wr.drew g { D with dur := D.image, uf := [] } F' := IsDisk.below Hd5.out (Below.refl _ _).drew
                have B : Below w.heap.size w wr.drew := HB5.out.drew
                clear Hd5 HS5 HB5
                obtain ⟨W, hW⟩ : ∃ W, W = wr.drew := ⟨_, rfl⟩
                rw [← hW] at hS hd B ⊢
                clear hW
                obtain ⟨gk, ok, L, cp, hv, hL0, hLc, hcm, S'⟩ := hS.cutOne hlj Hn.out (Hd.out.ok) B.size
                obtain ⟨m, rfl⟩ : ∃ m, L = m + 1 := ⟨L - 1, by omega⟩
                rw [Nat.add_sub_cancel] at S'
                have hwrap : IntKind.i64.wrap (m : Int) = (m : Int) := by
                  unfold maxLen at hcm
                  exact IntWalk.i64_in _ (by omega)
                have cell := hS.box.cell j
                rw [four_get vf' j hlj, hv] at cell
                have fz := hS.box.frozen j
                refine wpAny_take (i := 4) (v := ?_) rfl (by kernel_rfl) (by kernel_rfl) (by kernel_rfl) (fun _ _ _ h => h) (Or.inl ⟨by rfl, ?_⟩) ?_
                rotate_left
                · intro w
                  go_simp
                  with_reducible rfl
                refine wpAny_take (i := 8) (v := ?_) rfl (by kernel_rfl) (by kernel_rfl) (by kernel_rfl) (fun _ _ _ h => h) (Or.inl ⟨by rfl, ?_⟩) ?_
                rotate_left
                · intro w
                  go_simp
                  with_reducible rfl
                simp only [Act.put, List.setIfInBounds_toArray, List.set_cons_zero, List.set_cons_succ, List.getElem_toArray, List.getElem_cons_zero, List.getElem_cons_succ]
                refine wpAny_of_late (C := SlotsCells [(57, .pointer (some ⟨gs, j, none⟩)), (61, .pointer (some ⟨gs, j, none⟩))] [(⟨gs, j, none⟩, .slice (some ⟨gk, ok, none⟩) (m + 1) cp)]) (late := [13, 14]) _ _ _ _ ?_
                refine wpAnyD_take (i := 5) (v := .slice (some ⟨gk, ok, none⟩) (m + 1) cp) rfl (by kernel_rfl) (by kernel_rfl) (by kernel_rfl) (by kernel_rfl) (fun _ _ _ h => h) ?_ (fun fr u h => (SlotsCells.put 58 _ (by rfl)).1 h) (fun fr u h => (SlotsCells.put 58 _ (by rfl)).2 h) ?_ ?_
                · intro fr u hh
                  obtain ⟨e1, e2⟩ := hh.load (s := 57) (p := ⟨gs, j, none⟩) (v := .slice (some ⟨gk, ok, none⟩) (m + 1) cp) (by simp) (by simp)
                  exact ⟨rfl, by simp [execOp, e1, go_sem, e2]⟩
                · refine ⟨fun p hp => ?_, fun q hq => ?_⟩
                  · simp at hp
                    rcases hp with rfl | rfl <;> rfl
                  · simp at hq
                    subst hq
                    exact cell
                simp only [Act.put, List.setIfInBounds_toArray, List.set_cons_zero, List.set_cons_succ, List.getElem_toArray, List.getElem_cons_zero, List.getElem_cons_succ]
                refine wpAnyD_take (i := 9) (v := .slice (some ⟨gk, ok, none⟩) (m + 1) cp) rfl (by kernel_rfl) (by kernel_rfl) (by kernel_rfl) (by kernel_rfl) (fun _ _ _ h => h) ?_ (fun fr u h => (SlotsCells.put 62 _ (by rfl)).1 h) (fun fr u h => (SlotsCells.put 62 _ (by rfl)).2 h) ?_ ?_
                · intro fr u hh
                  obtain ⟨e1, e2⟩ := hh.load (s := 61) (p := ⟨gs, j, none⟩) (v := .slice (some ⟨gk, ok, none⟩) (m + 1) cp) (by simp) (by simp)
                  exact ⟨rfl, by simp [execOp, e1, go_sem, e2]⟩
                · refine ⟨fun p hp => ?_, fun q hq => ?_⟩
                  · simp at hp
                    rcases hp with rfl | rfl <;> rfl
                  · simp at hq
                    subst hq
                    exact cell
                simp only [Act.put, List.setIfInBounds_toArray, List.set_cons_zero, List.set_cons_succ, List.getElem_toArray, List.getElem_cons_zero, List.getElem_cons_succ]
                refine wpAnyD_one (i := 10) (by kernel_rfl) rfl (fun K hK => ?_)
                go_simp
                refine hK _ _ ⟨?_, ?_⟩
                · refine .inr ⟨fun p hp => ?_, fun q hq => ?_⟩
                  · simp at hp
                    rcases hp with rfl | rfl <;> rfl
                  · simp at hq
                    subst hq
                    exact cell
                clear hK K
                refine wpAnyD_one (i := 11) (by kernel_rfl) rfl (fun K hK => ?_)
                go_simp
                refine hK _ _ ⟨?_, ?_⟩
                · refine .inr ⟨fun p hp => ?_, fun q hq => ?_⟩
                  · simp at hp
                    rcases hp with rfl | rfl <;> rfl
                  · simp at hq
                    subst hq
                    exact cell
                clear hK K
                try rw [hwrap]
                refine wpAnyD_one (i := 12) (by kernel_rfl) rfl (fun K hK => ?_)
                go_simp
                rw [if_pos (by omega), if_neg (by omega)]
                refine hK _ _ ⟨?_, ?_⟩
                · refine .inr ⟨fun p hp => ?_, fun q hq => ?_⟩
                  · simp at hp
                    rcases hp with rfl | rfl <;> rfl
                  · simp at hq
                    subst hq
                    exact cell
                clear hK K
                refine wpAnyD_one (i := 13) (by kernel_rfl) rfl (fun K hK => ?_)
                go_simp
                refine hK _ _ ⟨.inl rfl, ?_⟩
                clear hK K
                refine wpAnyD_one (i := 14) (by kernel_rfl) rfl (fun K hK => ?_)
                go_simp
                refine hK _ _ ⟨.inl rfl, ?_⟩
                clear hK K
                refine wpAnyD_done (by kernel_rfl) ?_ _
                have d6 := hd.storeOut gs j (.slice (some ⟨gk, ok + m, none⟩) 1 (cp - m)) hS.gsF
                have B6 := B.setCell (p := ⟨gs, j, none⟩) hS.gs0 (.slice (some ⟨gk, ok + m, none⟩) 1 (cp - m))
                generalize W.setCell ⟨gs, j, none⟩ (.slice (some ⟨gk, ok + m, none⟩) 1 (cp - m)) = X at d6 B6 S' ⊢
                have D6 : Hid (IsDisk X g { D with dur := D.image, uf := [] } F') := d6
                have Q6 : Hid _ := B6
                have T6 : Hid _ := S'
                clear d6 B6 S' hd hS B cell fz hv
                go_wp2
                go_roundw
                case rel => exact ⟨j + 1, _, by omega, by go_num, T6.out, D6.out, Q6.out⟩
                case measure => simp [intOf]; omega
              · have hj4 : j = 4 := by omega
                subst j
                have hM5 : MRel w wr g gs (k + 1) := ⟨_, F', gf, vf', hd, HF.out, B, hS.congr (fun i hi => by
                  rw [sinceOf_flush]
                  exact (if_pos hi).symm), Hq.out, Hn.out, Nat.zero_le _, Nat.le_trans Hn'.out (Nat.le_succ _)⟩
                clear hd hS B
                go_wp2
                go_roundw
                case rel => exact ⟨k + 1, by omega, by go_num, hM5⟩
                case measure => simp [intOf]; omega
          · have e6 : ((p : Int) % 6 == 0) = false := by simp; omega
            obtain ⟨bn, hbn⟩ : ∃ bn : Nat, bn = p / 6 % 4 := ⟨_, rfl⟩
            have hb4 : bn < 4 := by omega
            have hbn' : (p : Int) / 6 % 4 = (bn : Int) := by omega
            clear h6 hbn
            have cM := made_at (p : Int) 4096 wr (by omega)
            rw [show ((4096 : Nat) : Int) = 4096 from rfl] at cM
            have hxl : (madeL (p : Int) 4096).length = 4096 := madeK_length _ _ _
            obtain ⟨x, hx⟩ : ∃ x, x = madeL (p : Int) 4096 := ⟨_, rfl⟩
            rw [← hx] at cM hxl
            have Hxl : Hid _ := hxl
            clear hx hxl
            go_wp2_with fail
            refine cM.mono ?_
            rintro e w5 ⟨rfl, o5, b5⟩
            clear cM
            obtain ⟨ga, hga⟩ : ∃ ga, ga = wr.heap.size := ⟨_, rfl⟩
            rw [← hga] at o5 ⊢
            have hd5 : IsDisk w5 g D F' := IsDisk.below Hd.out b5
            have hgF : ¬ F' ga := fun h => by have := IsDisk.flt Hd.out ga h; omega
            have S5 := HS.out.below b5
            have B5 := HB.out.trans (b5.mono HB.out.size)
            have cW := write_at hd5 (bn : Int) (some ⟨ga, 0, none⟩) 4096 4096 x Hxl.out ⟨by have := Hu.out; omega, by have := Hn'.out; omega⟩ o5.rd (fun ad h => by cases h; exact hgF)
            rw [Hq.out.writeE bn x (by rw [Hn.out]; exact hb4) Hxl.out, Hq.out.write bn x (by rw [Hn.out]; exact hb4) Hxl.out] at cW
            have Ho5 : Hid (Own w5 ga x) := o5
            have HS5 : Hid _ := S5
            have HB5 : Hid _ := B5
            clear hd5 b5 hga o5 S5 B5
            go_wp2_with fail
            refine cW.mono ?_
            rintro e w6 ⟨rfl, ⟨F6, hd6, hF6⟩, u6⟩
            clear cW
            have o6 : Own w6 ga x := (u6.block ga Ho5.out.lt hgF).trans Ho5.out
            have nga : ¬ F6 ga := fun h => by
              have := Ho5.out.lt
              rcases hF6 ga h with h | h
              · exact hgF h
              · omega
            have S6 := HS5.out.upd u6 hF6
            have B6 := HB5.out.trans (u6.below HF.out HB5.out.size)
            have hF6' : ∀ i, F6 i → w.heap.size ≤ i := fun i hi => by
              have := HB5.out.size
              rcases hF6 i hi with h | h
              · exact HF.out i h
              · omega
            obtain ⟨G, hG⟩ : ∃ G, G = w6.heap.size := ⟨_, rfl⟩
            obtain ⟨V, hV⟩ : ∃ V, V = w6.alloc (.cells #[.slice (some ⟨ga, 0, none⟩) 4096 4096] 27) := ⟨_, rfl⟩
            have bA : Below w6.heap.size w6 V := by rw [hV]; exact (Below.refl _ _).alloc (Nat.le_refl _) _
            have xV : Box V G #[.slice (some ⟨ga, 0, none⟩) 4096 4096] 27 := by rw [hV, hG]; exact Box.new _ _ _
            have rV : RowB V ga 4096 x := by
              have := RowB.own (o6.below bA o6.lt) (by rw [Hxl.out]; unfold maxLen; omega)
              rw [Hxl.out] at this
              exact this
            have SV := S6.below bA
            have BV := B6.trans (bA.mono B6.size)
            have dV : IsDisk V g _ F6 := IsDisk.below hd6 bA
            have cell6 := S6.box.cell bn
            rw [four_get vf bn hb4] at cell6
            have hlen : (sinceOf D bn).length ≤ 1000 := by have := sinceOf_length D bn; have := Hu.out; omega
            obtain ⟨v', w7, g7, hrun, p7, gr7, hg7⟩ := (SV.pile bn hb4).append 46 G ga 4096 x (xV.cell 0) rV nga (fun i hi => dV.flt i hi) hlen
            obtain ⟨o7, c7, n7, rfl⟩ : ∃ o c n, v' = .slice (some ⟨g7, o, none⟩) n c := by
              obtain ⟨o, c, _, h, _⟩ := p7
              exact ⟨o, c, _, h⟩
            have hne : gs ≠ gf bn := by
              obtain ⟨c', hb'⟩ := (SV.pile bn hb4).box
              exact SV.box.ne hb' (by decide)
            have box7 : Box w7 gs #[vf 0, vf 1, vf 2, vf 3] 46 := (gr7.block gs SV.box.lt (fun e => hne (by simpa using e))).trans SV.box
            have cell7 := box7.cell bn
            rw [four_get vf bn hb4] at cell7
            have fz7 := box7.frozen bn
            have S8 := SV.put bn hb4 g7 _ _ p7 gr7 hg7 (by simp) BV.size
            have d7 : IsDisk w7 g _ F6 := dV.kept (fun i hi => gr7.block i (dV.flt i hi) (fun e => by
              obtain ⟨_, _, _, _, _, _, _, _, nf, _⟩ := SV.pile bn hb4
              have e' : i = gf bn := by simpa using e
              exact nf (by rw [← e']; exact hi))) gr7.size
            have d8 := d7.storeOut gs bn (.slice (some ⟨g7, o7, none⟩) n7 c7) S6.gsF
            have B7 := BV.grown gr7 BV.size (fun q e => by cases e; exact S6.g0 bn hb4)
            have B8 := B7.setCell (p := ⟨gs, bn, none⟩) S6.gs0 (.slice (some ⟨g7, o7, none⟩) n7 c7)
            have hM8 : MRel w (w7.setCell ⟨gs, bn, none⟩ (.slice (some ⟨g7, o7, none⟩) n7 c7)) g gs (k + 1) := ⟨_, F6, _, _, d8, hF6', B8, S8.congr (fun i hi => by
              rw [sinceOf_write]
              by_cases q : i = bn
              · subst q
                rw [at_same, if_pos rfl]
              · rw [at_other _ _ _ _ q, if_neg q]), Hq.out, Hn.out, by
                have := Hu.out
                simp
                omega, by
                have := Hn'.out
                show D.n + 1 ≤ k + 1
                omega⟩
            have HM8 : Hid _ := hM8
            have HV : Hid _ := hV
            have HG : Hid _ := hG
            obtain ⟨vb, hvb⟩ : ∃ vb, vb = vf bn := ⟨_, rfl⟩
            rw [← hvb] at cell6 hrun cell7
            clear hM8 hV hG S8 d7 d8 B7 B8 box7 hne p7 gr7 hg7 hlen dV BV SV rV xV bA hF6' B6 S6 nga o6 hd6 hF6 u6 hvb HS5 HB5 Ho5
            go_wp2_with (rw [← HG.out, ← HV.out]; at_builtin; refine wpList_append_ran rfl _ _ 46 46 rfl _ _ _ w7 rfl rfl hrun ?_)
            go_roundw
            case rel => exact ⟨k + 1, by omega, by go_num, HM8.out⟩
            case measure => simp [intOf]; omega
        · have hM30 := hM.mono hk
          by_cases hn1 : k < n
          · have hk30 : ¬ (k : Int) < 30 := by omega
            clear hlt
            go_wp2_with fail
            refine bodyPost_ret (v := .tuple #[.pointer (some ⟨g, 0, none⟩), .slice (some ⟨gs, 0, none⟩) 4 4]) (by simp [results, Try.results33, go_sem]) rfl ⟨g, gs, rfl, hM30⟩
          · have hk30 : ¬ (k : Int) < (n : Int) := by omega
            clear hlt
            go_wp2_with fail
            refine bodyPost_ret (v := .tuple #[.pointer (some ⟨g, 0, none⟩), .slice (some ⟨gs, 0, none⟩) 4 4]) (by simp [results, Try.results33, go_sem]) rfl ⟨g, gs, rfl, hM30⟩
end Go.Proofs.Ytagnmmapnpcijaa
