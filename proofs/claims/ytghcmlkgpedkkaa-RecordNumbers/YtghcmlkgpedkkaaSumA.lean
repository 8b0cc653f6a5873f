/-
  sum: the sum stands where it is said to.
-/
import Derived.Test.YtghcmlkgpedkkaaMany
namespace Go.Proofs.Ytghcmlkgpedkkaa
open Go.RowKit

set_option maxRecDepth 100000 in
set_option maxHeartbeats 2000000 in
theorem sum_at (g cap : Nat) (xs : List UInt8) (w : World) (hl : xs.length = 4096) (hcap : 4096 ≤ cap) (hr : Rd w (some ⟨g, 0, none⟩) xs) (hs : ((bodyX xs).drop 2).take 4 = toBE 4 (crc 0 ((bodyX xs).drop 6))) :
    Calls Try.prog 15 #[.slice (some ⟨g, 0, none⟩) 4096 cap] w fun r w' => r = .returned (.bool true) ∧ Below w.heap.size w w' := by
  have HL : Hid (xs.length = 4096) := hl
  have HR : Hid (Rd w (some ⟨g, 0, none⟩) xs) := hr
  have HS : Hid (((bodyX xs).drop 2).take 4 = toBE 4 (crc 0 ((bodyX xs).drop 6))) := hs
  clear hl hr hs
  go_enter Try.func15, Try.ntmps15
  go_wp2_with fail
  go_loopw [3, 4] (fun v i u => ∃ k : Nat, k ≤ 8 ∧ i = .int .i64 (k : Int) ∧ u.ownsRow w.heap.size 5 1 v (k * 504) (bcs (cat (fun x => (sec xs x.val).drop 8) k)) ∧ Below w.heap.size w u) (fun _ i _ => 8 - (intOf i).toNat)
  case atStart => exact ⟨0, by omega, rfl, World.ownsRow_nil _ _ _ _, Below.refl _ _⟩
  case round =>
    obtain ⟨k, hk, rfl, own, B⟩ := hrel
    obtain ⟨av, cv, rfl⟩ := owns_shape own
    by_cases hlt : k < 8
    · have hki : (k : Int) < 8 := by omega
      have hp := (HR.out.below B (Nat.le_refl _)).part (k * 512 + 8) 504
      rw [Nat.zero_add] at hp
      have hsec : (xs.drop (k * 512 + 8)).take 504 = (sec xs k).drop 8 := by
        unfold sec
        rw [List.drop_take, List.drop_drop]
      rw [hsec] at hp
      have hlen : ((sec xs k).drop 8).length = 504 := by
        rw [List.length_drop, sec_length xs k HL.out hlt]
      have hcs : Hid (cat (fun x => (sec xs x.val).drop 8) (k + 1) = cat (fun x => (sec xs x.val).drop 8) k ++ (sec xs k).drop 8) := cat_succ _ k hlt
      generalize (sec xs k).drop 8 = ys at hp hlen hcs
      have e1 : (k : Int) * 512 + 8 ≤ ((k : Int) + 1) * 512 := by omega
      have e2 : ((k : Int) + 1) * 512 ≤ (cap : Int) := by omega
      clear hsec
      have hlen2 : ys.length = (k + 1) * 512 - (k * 512 + 8) := by rw [hlen]; omega
      go_wp2_with (at_builtin; refine wpList_append_bytes rfl _ _ rfl w.heap.size _ (k * 504) _ rfl own (some ⟨g, k * 512 + 8, none⟩) _ _ ys rfl hlen2 hp (fun h => by cases h) (by omega) B.size ?_)
      intro v' w' own' gr'
      have B' := B.grown gr' B.size (fun j e => (owns_block own j e).1)
      have en : k * 504 + ((k + 1) * 512 - (k * 512 + 8)) = (k + 1) * 504 := by omega
      rw [en, ← bcs_append] at own'
      clear own gr' hp hlen hlen2 en B
      go_wp2_with fail
      go_roundw
      case rel => exact ⟨k + 1, by omega, by push_cast; rfl, by rw [hcs.out]; exact own', B'⟩
      case measure => simp [intOf]; omega
    · have hk8 : k = 8 := by omega
      subst hk8
      have hbx : cat (fun x : Fin 8 => (sec xs x.val).drop 8) 8 = bodyX xs := (bodyX_cat xs).symm
      rw [hbx] at own
      obtain ⟨a', cap', hv, hyl, hc1, hc2, hrd, hg⟩ := owns_rd own
      obtain ⟨gi, hgi, _, lgi⟩ := hg (by omega)
      subst hgi
      obtain ⟨rfl, rfl⟩ : av = some ⟨gi, 0, none⟩ ∧ cv = cap' := by
        injection hv with h1 h2 h3
        exact ⟨h1, h3⟩
      have hcv : cv ≤ maxLen := hc2
      have r6 := hrd.part 6 4026
      have r2 := hrd.part 2 4
      rw [Nat.zero_add] at r6 r2
      have e6 : ((bodyX xs).drop 6).take 4026 = (bodyX xs).drop 6 := List.take_of_length_le (by rw [List.length_drop, hyl]; omega)
      rw [e6] at r6
      rw [HS.out] at r2
      have l6 : ((bodyX xs).drop 6).length = 4026 := by rw [List.length_drop, hyl]
      generalize (bodyX xs).drop 6 = zs at r6 r2 l6
      have HC : Hid (Calls Try.prog 37 #[.int .u32 0, .slice (some ⟨gi, 6, none⟩) 4026 (cv - 6)] wr fun e w' => e = .returned (.int .u32 (crc 0 zs : Nat)) ∧ wr = w') := rmore_at (cv - 6) 4026 (some ⟨gi, 6, none⟩) zs 0 0 wr rfl l6 (by omega) (by omega) r6
      have hcl : crc 0 zs < 4294967296 := crc_lt 0 zs
      generalize crc 0 zs = C at HC r2 hcl
      clear own hrd hbx e6 hyl hv r6 l6
      have hci : (4032 : Int) ≤ (cv : Int) := by omega
      go_wp2_with fail
      refine HC.out.mono ?_
      rintro r w5 ⟨rfl, rfl⟩
      clear HC
      go_wp2_with fail
      have hal := (Below.refl wr.heap.size wr).alloc (Nat.le_refl _) (.cells #[.int .u8 ((C : Int) / 16777216), .int .u8 ((C : Int) / 65536 % 256), .int .u8 ((C : Int) / 256 % 256), .int .u8 ((C : Int) % 256)] 5)
      have hlit : Rd (wr.alloc (.cells #[.int .u8 ((C : Int) / 16777216), .int .u8 ((C : Int) / 65536 % 256), .int .u8 ((C : Int) / 256 % 256), .int .u8 ((C : Int) % 256)] 5)) (some ⟨wr.heap.size, 0, none⟩) (toBE 4 C) := by
        have e : bcs (toBE 4 C) = [.int .u8 ((C : Int) / 16777216), .int .u8 ((C : Int) / 65536 % 256), .int .u8 ((C : Int) / 256 % 256), .int .u8 ((C : Int) % 256)] := by
          have t : toBE 4 C = UInt8.ofNat (C / 256 ^ 3) :: UInt8.ofNat (C / 256 ^ 2) :: UInt8.ofNat (C / 256 ^ 1) :: UInt8.ofNat (C / 256 ^ 0) :: [] := by
            rw [toBE_cons, toBE_cons, toBE_cons, toBE_cons]
            rfl
          have h3 : ((UInt8.ofNat (C / 256 ^ 3)).toNat : Int) = (C : Int) / 16777216 := by rw [ofNat_toNat]; omega
          have h2 : ((UInt8.ofNat (C / 256 ^ 2)).toNat : Int) = (C : Int) / 65536 % 256 := by rw [ofNat_toNat]; omega
          have h1 : ((UInt8.ofNat (C / 256 ^ 1)).toNat : Int) = (C : Int) / 256 % 256 := by rw [ofNat_toNat]; omega
          have h0 : ((UInt8.ofNat (C / 256 ^ 0)).toNat : Int) = (C : Int) % 256 := by rw [ofNat_toNat]; omega
          rw [t, ← h3, ← h2, ← h1, ← h0]
          rfl
        have := (own_lit wr (toBE 4 C)).rd
        rw [e] at this
        exact this
      refine (same_at (cv - 2) 4 4 4 _ _ (toBE 4 C) (toBE 4 C) _ (toBE_length _ _) (toBE_length _ _) (r2.below hal (Nat.le_refl _)) hlit).mono ?_
      rintro r w6 ⟨rfl, rfl⟩
      rw [beq_self_eq_true]
      go_wp2_with fail
      go_ret
      exact ⟨rfl, B.trans (hal.mono B.size)⟩
end Go.Proofs.Ytghcmlkgpedkkaa
