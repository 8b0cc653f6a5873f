/-
  What SuperNumbers calls besides: many, and the look at the sums.
-/
import Derived.Test.YtmhplpiglbamcaaBack
import Derived.Test.YtmhplpiglbamcaaRef
namespace Go.Proofs.Ytmhplpiglbamcaa
open Go.RowKit

/-- so many extents, one behind the other -/
def manyE (k : Nat) : List Ext := (List.range k).map fun (i : Nat) => ⟨2 * (i : Int), 1 + (i : Int), 1⟩
theorem manyE_length (k : Nat) : (manyE k).length = k := by simp [manyE]
theorem manyE_succ (k : Nat) : manyE (k + 1) = manyE k ++ [⟨2 * (k : Int), 1 + (k : Int), 1⟩] := by simp [manyE, List.range_succ]
theorem manyE_wf (k : Nat) (hk : k ≤ 1000) : ∀ e ∈ manyE k, wfE e := by
  intro e he
  obtain ⟨j, hj, rfl⟩ := List.mem_map.1 he
  have : j < k := by simpa using hj
  simp only [wfE]
  omega

theorem many_at (c : Nat) (C : Int) (w : World) (hC : C = (c : Int)) (hc : c ≤ 1000) :
    Calls Try.prog 10 #[.int .i64 C] w fun r w' => ∃ v, r = .returned v ∧ w'.ownsRow w.heap.size 46 3 v c (ecs (manyE c)) ∧ Below w.heap.size w w' := by
  subst hC
  obtain ⟨i0, hi, hz0, hz1, hz2⟩ := info_parts info46
  go_enter Try.func10, Try.ntmps10
  go_wp2_with fail
  go_loopw [3, 4] (fun v i wr => ∃ k : Nat, k ≤ c ∧ i = .int .i64 k ∧ wr.ownsRow w.heap.size 46 3 v k (ecs (manyE k)) ∧ Below w.heap.size w wr) (fun _ i _ => c - (intOf i).toNat)
  case atStart => exact ⟨0, Nat.zero_le _, rfl, World.ownsRow_nil _ _ _ _, Below.refl _ _⟩
  case round =>
    obtain ⟨k, hk, rfl, hown, hbel⟩ := hrel
    by_cases hlt : k < c
    · have z3 := hbel.size
      go_wp2_with (at_builtin; refine wpList_append_own _ rfl _ _ 30 rfl w.heap.size 46 i0 (.agg #[.int .i64 0, .int .i64 0, .int .i64 0]) 3 24 Try.underlying30 hi hz0 hz1 hz2 rfl (by decide) u3 k (ecs (manyE k)) rfl (hown.alloc _) ⟨wr.heap.size, 0, none⟩ 1 1 [.int .i64 (2 * (k : Int)), .int .i64 (1 + (k : Int)), .int .i64 1] rfl rfl ?c1 ?c2 ?c3 ?c4 ?c5 ?_)
      case c1 =>
        intro i u hi'
        match i, hi' with
        | 0, hi' => simp at hi'; subst hi'; simp [Addr.add]
        | 1, hi' => simp at hi'; subst hi'; simp [Addr.add]
        | 2, hi' => simp at hi'; subst hi'; simp [Addr.add]
      case c2 => intro u hu; simp at hu; rcases hu with rfl | rfl | rfl <;> rfl
      case c3 => unfold maxLen; omega
      case c4 => omega
      case c5 => simp; omega
      · intro v' w4 hown4 hgrow _
        have B4 : Below w.heap.size w w4 := (hbel.alloc z3 _).grown hgrow (by simp; omega) (fun k hk => (hown.lt k hk).1)
        have hfin : Hid (ecs (manyE (k + 1)) = ecs (manyE k) ++ [.int .i64 (2 * (k : Int)), .int .i64 (1 + (k : Int)), .int .i64 1]) := by
          show _ = _
          rw [manyE_succ]
          simp [ecs, ec]
        clear hown hbel hgrow
        go_wp2
        go_roundw
        case rel =>
          refine ⟨k + 1, by omega, by go_num, ?_, B4⟩
          rw [hfin.out]; exact hown4
        case measure => simp [intOf]; omega
    · obtain rfl : k = c := by omega
      go_wp2
      go_ret
      exact ⟨_, rfl, hown, hbel⟩

theorem num4 (xs : List UInt8) (k : Nat) (h : k + 4 ≤ xs.length) : num xs (k : Int) 4 = (xs[k]'(by omega)).toNat * 16777216 + (xs[k + 1]'(by omega)).toNat * 65536 + (xs[k + 2]'(by omega)).toNat * 256 + (xs[k + 3]'(by omega)).toNat := by
  unfold num
  rw [numAt_some (by omega), Option.getD_some, be_window_succ xs k 3 (by omega), be_window_succ xs k 2 (by omega), be_window_succ xs k 1 (by omega), be_window_succ xs k 0 (by omega)]
  simp [beNat]
  omega

theorem or4 (c0 c1 c2 c3 : Nat) (l0 : c0 < 256) (l1 : c1 < 256) (l2 : c2 < 256) (l3 : c3 < 256) :
    bits BinOp.or IntKind.u32 (bits BinOp.or IntKind.u32 (bits BinOp.or IntKind.u32 ((c0 : Int) * 16777216) ((c1 : Int) * 65536)) ((c2 : Int) * 256)) (c3 : Int) = ((c0 * 16777216 + c1 * 65536 + c2 * 256 + c3 : Nat) : Int) := by
  rw [bits_join .u32 32 (by decide) (fun n h0 h1 => by rw [IntKind.wrap_u32]; omega) 24 ((c0 : Int) * 16777216) ((c1 : Int) * 65536) (by omega) (by omega) (by omega) (by omega) (by omega) (by omega)]
  rw [bits_join .u32 32 (by decide) (fun n h0 h1 => by rw [IntKind.wrap_u32]; omega) 16 ((c0 : Int) * 16777216 + (c1 : Int) * 65536) ((c2 : Int) * 256) (by omega) (by omega) (by omega) (by omega) (by omega) (by omega)]
  rw [bits_join .u32 32 (by decide) (fun n h0 h1 => by rw [IntKind.wrap_u32]; omega) 8 ((c0 : Int) * 16777216 + (c1 : Int) * 65536 + (c2 : Int) * 256) (c3 : Int) (by omega) (by omega) (by omega) (by omega) (by omega) (by omega)]
  omega

theorem at_40 (b o cap n : Nat) (xs : List UInt8) (X : Nat) (w : World) (hX : num xs 40 4 = X) (hl : xs.length = n) (hk : 40 + 4 ≤ n) (hn : n ≤ 100000) (hc : ∀ j (h : j < xs.length), w.cell? ⟨b, o + j, none⟩ = some (.int .u8 (xs[j].toNat : Int))) :
    Calls Try.prog 57 #[.slice (some ⟨b, o, none⟩) n cap, .int .i64 40] w fun r w' => r = .returned (.int .u32 X) ∧ ∃ m, w' = w.drewN m := by
  have h0 := hc 40 (by omega)
  have h1 := hc 41 (by omega)
  have h2 := hc 42 (by omega)
  have h3 := hc 43 (by omega)
  have hN : Hid (X = xs[40].toNat * 16777216 + xs[41].toNat * 65536 + xs[42].toNat * 256 + xs[43].toNat) := by rw [← hX]; exact num4 xs 40 (by omega)
  have l0 := u8_lt xs[40]
  have l1 := u8_lt xs[41]
  have l2 := u8_lt xs[42]
  have l3 := u8_lt xs[43]
  generalize xs[40].toNat = c0 at h0 l0 hN
  generalize xs[41].toNat = c1 at h1 l1 hN
  generalize xs[42].toNat = c2 at h2 l2 hN
  generalize xs[43].toNat = c3 at h3 l3 hN
  have ho : Hid _ := or4 c0 c1 c2 c3 l0 l1 l2 l3
  clear hl hc hX
  have i0 : (40 : Int) < (n : Int) := by omega
  have i1 : (41 : Int) < (n : Int) := by omega
  have i2 : (42 : Int) < (n : Int) := by omega
  have i3 : (43 : Int) < (n : Int) := by omega
  go_enter Try.func57, Try.ntmps57
  go_wp2_with fail
  go_quiet (fail)
  rw [ho.out, ← hN.out]
  go_wp2
  go_ret
  exact ⟨rfl, _, rfl⟩

theorem at_4 (b o cap n : Nat) (xs : List UInt8) (X : Nat) (w : World) (hX : num xs 4 4 = X) (hl : xs.length = n) (hk : 4 + 4 ≤ n) (hn : n ≤ 100000) (hc : ∀ j (h : j < xs.length), w.cell? ⟨b, o + j, none⟩ = some (.int .u8 (xs[j].toNat : Int))) :
    Calls Try.prog 57 #[.slice (some ⟨b, o, none⟩) n cap, .int .i64 4] w fun r w' => r = .returned (.int .u32 X) ∧ ∃ m, w' = w.drewN m := by
  have h0 := hc 4 (by omega)
  have h1 := hc 5 (by omega)
  have h2 := hc 6 (by omega)
  have h3 := hc 7 (by omega)
  have hN : Hid (X = xs[4].toNat * 16777216 + xs[5].toNat * 65536 + xs[6].toNat * 256 + xs[7].toNat) := by rw [← hX]; exact num4 xs 4 (by omega)
  have l0 := u8_lt xs[4]
  have l1 := u8_lt xs[5]
  have l2 := u8_lt xs[6]
  have l3 := u8_lt xs[7]
  generalize xs[4].toNat = c0 at h0 l0 hN
  generalize xs[5].toNat = c1 at h1 l1 hN
  generalize xs[6].toNat = c2 at h2 l2 hN
  generalize xs[7].toNat = c3 at h3 l3 hN
  have ho : Hid _ := or4 c0 c1 c2 c3 l0 l1 l2 l3
  clear hl hc hX
  have i0 : (4 : Int) < (n : Int) := by omega
  have i1 : (5 : Int) < (n : Int) := by omega
  have i2 : (6 : Int) < (n : Int) := by omega
  have i3 : (7 : Int) < (n : Int) := by omega
  go_enter Try.func57, Try.ntmps57
  go_wp2_with fail
  go_quiet (fail)
  rw [ho.out, ← hN.out]
  go_wp2
  go_ret
  exact ⟨rfl, _, rfl⟩

theorem at_60 (b o cap n : Nat) (xs : List UInt8) (X : Nat) (w : World) (hX : num xs 60 4 = X) (hl : xs.length = n) (hk : 60 + 4 ≤ n) (hn : n ≤ 100000) (hc : ∀ j (h : j < xs.length), w.cell? ⟨b, o + j, none⟩ = some (.int .u8 (xs[j].toNat : Int))) :
    Calls Try.prog 57 #[.slice (some ⟨b, o, none⟩) n cap, .int .i64 60] w fun r w' => r = .returned (.int .u32 X) ∧ ∃ m, w' = w.drewN m := by
  have h0 := hc 60 (by omega)
  have h1 := hc 61 (by omega)
  have h2 := hc 62 (by omega)
  have h3 := hc 63 (by omega)
  have hN : Hid (X = xs[60].toNat * 16777216 + xs[61].toNat * 65536 + xs[62].toNat * 256 + xs[63].toNat) := by rw [← hX]; exact num4 xs 60 (by omega)
  have l0 := u8_lt xs[60]
  have l1 := u8_lt xs[61]
  have l2 := u8_lt xs[62]
  have l3 := u8_lt xs[63]
  generalize xs[60].toNat = c0 at h0 l0 hN
  generalize xs[61].toNat = c1 at h1 l1 hN
  generalize xs[62].toNat = c2 at h2 l2 hN
  generalize xs[63].toNat = c3 at h3 l3 hN
  have ho : Hid _ := or4 c0 c1 c2 c3 l0 l1 l2 l3
  clear hl hc hX
  have i0 : (60 : Int) < (n : Int) := by omega
  have i1 : (61 : Int) < (n : Int) := by omega
  have i2 : (62 : Int) < (n : Int) := by omega
  have i3 : (63 : Int) < (n : Int) := by omega
  go_enter Try.func57, Try.ntmps57
  go_wp2_with fail
  go_quiet (fail)
  rw [ho.out, ← hN.out]
  go_wp2
  go_ret
  exact ⟨rfl, _, rfl⟩

def dirI : List UInt8 := inodeB 2 100 131072 [] 511
theorem put_dir : putInode 2 100 131072 [] 511 = some dirI := by
  unfold putInode
  have h1 : unusedI 2 100 131072 ([] : List Ext).length 511 = false := by decide
  have h2 : usedI 2 100 131072 [] 511 = true := by decide
  rw [h1, h2]
  rfl
theorem dirI_length : dirI.length = 64 := inodeB_length _ _ _ _ _ (by decide)
theorem dirI_num : num dirI 60 4 = crc 0 (dirI.take 60) := by
  rw [dirI, inodeB_take _ _ _ _ _ (by decide)]
  unfold inodeB
  have := num_put (headI 2 100 131072 [] 511 ++ noughts 32) [] 4 (crc 0 (headI 2 100 131072 [] 511 ++ noughts 32)) 60 (by rw [List.length_append, headI_length _ _ _ _ _ (by decide), noughts_length]; rfl) (by have := crc_lt 0 (headI 2 100 131072 [] 511 ++ noughts 32); omega)
  rw [List.append_nil] at this
  exact this
theorem dirI_head : dirI.take 28 = headI 2 100 131072 [] 511 := by
  unfold dirI inodeB
  rw [List.append_assoc]
  exact List.take_left' (headI_length _ _ _ _ _ (by decide))
theorem dirI_at (j : Nat) (c : UInt8) (hj : j < 28) (h : (headI 2 100 131072 [] 511)[j]? = some c) : dirI[j]? = some c := by
  rw [← h, ← dirI_head, List.getElem?_take]
  simp [hj]

set_option maxRecDepth 100000 in
set_option maxHeartbeats 4000000 in
theorem sums_at (gb gn cb cn : Nat) (S N : List UInt8) (w : World) (hS : S.length = 4096) (hN : N.length = 4096) (hcb : 4096 ≤ cb) (hcn : 4096 ≤ cn) (hmb : cb ≤ 9223372036854775807) (hmn : cn ≤ 9223372036854775807)
    (sS : num S 40 4 = crc 0 (S.take 40)) (sN : num N 4 4 = crc 0 (N.drop 8)) (rS : Rd w (some ⟨gb, 0, none⟩) S) (rN : Rd w (some ⟨gn, 0, none⟩) N) :
    Calls Try.prog 18 #[.slice (some ⟨gb, 0, none⟩) 4096 cb, .slice (some ⟨gn, 0, none⟩) 4096 cn] w fun r w' => r = .returned (.bool true) ∧ Below w.heap.size w w' := by
  have HS : Hid _ := hS
  have HN : Hid _ := hN
  have HsS : Hid _ := sS
  have HsN : Hid _ := sN
  clear hS hN sS sN
  have hpd : Hid _ := put_dir
  have hdl : Hid _ := dirI_length
  have hdn : Hid _ := dirI_num
  have d0 : Hid (dirI[0]? = some 2) := dirI_at 0 2 (by omega) rfl
  have d26 : Hid (dirI[26]? = some 1) := dirI_at 26 1 (by omega) rfl
  have d27 : Hid (dirI[27]? = some 255) := dirI_at 27 255 (by omega) rfl
  generalize dirI = I at hpd hdl hdn d0 d26 d27
  go_enter Try.func18, Try.ntmps18
  go_wp2_with fail
  refine (putInode_at 2 0 0 100 131072 511 none [] w rfl (by omega) (by simp) (RdE.nil _ _)).mono ?_
  rintro r w1 h1
  obtain ⟨gi, ci, rfl, oi, _, _, hci, hxi, b1⟩ := puts_block h1 hpd.out hdl.out (by omega)
  have rI := owns_rd_at oi
  have rS1 := rS.below b1 (Nat.le_refl _)
  have rN1 := rN.below b1 (Nat.le_refl _)
  clear h1 oi rS rN
  have cellOf : ∀ (g : Nat) (xs : List UInt8), Rd w1 (some ⟨g, 0, none⟩) xs → ∀ j (h : j < xs.length), w1.cell? ⟨g, 0 + j, none⟩ = some (.int .u8 (xs[j].toNat : Int)) := by
    intro g xs hr j h
    obtain ⟨b', o', he, hc⟩ := hr (by omega)
    simp only [Option.some.injEq, Addr.mk.injEq, and_true] at he
    obtain ⟨rfl, rfl⟩ := he
    exact hc j h
  have cS := cellOf gb S rS1
  have cN := cellOf gn N rN1
  have cI := cellOf gi I rI
  have pick : ∀ (j : Nat) (c : UInt8), I[j]? = some c → w1.cell? ⟨gi, j, none⟩ = some (.int .u8 (c.toNat : Int)) := by
    intro j c h
    obtain ⟨hj, he⟩ := List.getElem?_eq_some_iff.1 h
    have := cI j hj
    rw [Nat.zero_add, he] at this
    exact this
  have e0 := pick 0 2 d0.out
  have e26 := pick 26 1 d26.out
  have e27 := pick 27 255 d27.out
  have HcS : Hid _ := cS
  have HcN : Hid _ := cN
  have HcI : Hid _ := cI
  have tS := rS1.take 40
  have tN := rN1.drop 8
  have tI := rI.take 60
  have tSl : Hid ((S.take 40).length = 40) := by have := HS.out; show _ = _; simp; omega
  have tNl : Hid ((N.drop 8).length = 4088) := by have := HN.out; show _ = _; simp; omega
  have tIl : Hid ((I.take 60).length = 60) := by have := hdl.out; show _ = _; simp; omega
  obtain ⟨X1, hX1⟩ : ∃ X, X = crc 0 (S.take 40) := ⟨_, rfl⟩
  obtain ⟨X2, hX2⟩ : ∃ X, X = crc 0 (N.drop 8) := ⟨_, rfl⟩
  obtain ⟨X3, hX3⟩ : ∃ X, X = crc 0 (I.take 60) := ⟨_, rfl⟩
  have m1 : ∀ u m, Calls Try.prog 58 #[.int .u32 0, .slice (some ⟨gb, 0, none⟩) 40 cb] (w1.drewN m) u → True := fun _ _ _ => trivial
  have k1 : ∀ m, Calls Try.prog 58 #[.int .u32 0, .slice (some ⟨gb, 0, none⟩) 40 cb] (w1.drewN m) fun e w' => e = .returned (.int .u32 X1) ∧ w' = w1.drewN m := fun m => by rw [hX1]; refine (ref_at cb 40 _ (S.take 40) 0 0 (w1.drewN m) rfl tSl.out (by omega) (by omega) tS).mono ?_; rintro e w' ⟨rfl, rfl⟩; exact ⟨rfl, rfl⟩
  have k2 : ∀ m, Calls Try.prog 58 #[.int .u32 0, .slice (some ⟨gn, 8, none⟩) 4088 (cn - 8)] (w1.drewN m) fun e w' => e = .returned (.int .u32 X2) ∧ w' = w1.drewN m := fun m => by rw [hX2]; refine (ref_at (cn - 8) 4088 _ (N.drop 8) 0 0 (w1.drewN m) rfl tNl.out (by omega) (by omega) tN).mono ?_; rintro e w' ⟨rfl, rfl⟩; exact ⟨rfl, rfl⟩
  have k3 : ∀ m, Calls Try.prog 58 #[.int .u32 0, .slice (some ⟨gi, 0, none⟩) 60 ci] (w1.drewN m) fun e w' => e = .returned (.int .u32 X3) ∧ w' = w1.drewN m := fun m => by rw [hX3]; refine (ref_at ci 60 _ (I.take 60) 0 0 (w1.drewN m) rfl tIl.out (by omega) (by omega) tI).mono ?_; rintro e w' ⟨rfl, rfl⟩; exact ⟨rfl, rfl⟩
  have j1 : ∀ m, Calls Try.prog 57 #[.slice (some ⟨gb, 0, none⟩) 4096 cb, .int .i64 40] (w1.drewN m) fun r w' => r = .returned (.int .u32 X1) ∧ ∃ m', w' = (w1.drewN m).drewN m' := fun m => at_40 gb 0 cb 4096 S X1 (w1.drewN m) (by rw [hX1]; exact HsS.out) HS.out (by omega) (by omega) HcS.out
  have j2 : ∀ m, Calls Try.prog 57 #[.slice (some ⟨gn, 0, none⟩) 4096 cn, .int .i64 4] (w1.drewN m) fun r w' => r = .returned (.int .u32 X2) ∧ ∃ m', w' = (w1.drewN m).drewN m' := fun m => at_4 gn 0 cn 4096 N X2 (w1.drewN m) (by rw [hX2]; exact HsN.out) HN.out (by omega) (by omega) HcN.out
  have j3 : ∀ m, Calls Try.prog 57 #[.slice (some ⟨gi, 0, none⟩) 64 ci, .int .i64 60] (w1.drewN m) fun r w' => r = .returned (.int .u32 X3) ∧ ∃ m', w' = (w1.drewN m).drewN m' := fun m => at_60 gi 0 ci 64 I X3 (w1.drewN m) (by rw [hX3]; exact hdn.out) hdl.out (by omega) (by omega) HcI.out
  have K1 : Hid _ := k1
  have K2 : Hid _ := k2
  have K3 : Hid _ := k3
  have J1 : Hid _ := j1
  have J2 : Hid _ := j2
  have J3 : Hid _ := j3
  have f1 : ¬ ((cb : Int) < 40) := by omega
  have f2 : ¬ ((cn : Int) < 8) := by omega
  have f3 : ¬ ((cn : Int) < 4096) := by omega
  have f4 : ¬ cn = 8 := by omega
  have f5 : ¬ ((ci : Int) < 60) := by omega
  clear m1 k1 k2 k3 j1 j2 j3 pick cellOf cS cN cI tS tN tI rI rS1 rN1 hX1 hX2 hX3
  go_wp2_with fail
  go_quiet (first | (go_at_call_of 57 (Value.int IntKind.i64 40); exact Calls.quiet_of (J1.out _)) | (go_at_call_of 57 (Value.int IntKind.i64 4); exact Calls.quiet_of (J2.out _)) | (go_at_call_of 57 (Value.int IntKind.i64 60); exact Calls.quiet_of (J3.out _)) | (go_at_call_of 58 cb; exact Calls.quiet_of_same (K1.out _)) | (go_at_call_of 58 gn; exact Calls.quiet_of_same (K2.out _)) | (go_at_call_of 58 ci; exact Calls.quiet_of_same (K3.out _)))
  generalize hW : w1.drewN nq = w9
  have b9 : Below w.heap.size w w9 := by rw [← hW]; exact b1.trans ⟨rfl, rfl, rfl, Nat.le_refl _, fun _ _ => rfl⟩
  clear hW b1
  go_wp2
  go_ret
  exact ⟨rfl, b9⟩
end Go.Proofs.Ytmhplpiglbamcaa
