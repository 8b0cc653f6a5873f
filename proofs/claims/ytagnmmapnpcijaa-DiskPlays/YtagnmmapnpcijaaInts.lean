/-
  SameInts.
-/
import Derived.Test.YtagnmmapnpcijaaTold
namespace Go.Proofs.Ytagnmmapnpcijaa
open Go.RowKit

/-- These whole numbers lie where a says (of none nothing is asked). -/
def RdI (w : World) (a : Option Addr) (zs : List Int) : Prop :=
  0 < zs.length → ∃ b o, a = some ⟨b, o, none⟩ ∧ ∀ j (h : j < zs.length), w.cell? ⟨b, o + j, none⟩ = some (.int .i64 zs[j])
theorem RdI.below {B : Nat} {w w' : World} {a : Option Addr} {zs : List Int} (h : RdI w a zs) (hb : Below B w w') (hB : w.heap.size ≤ B) : RdI w' a zs := fun hp => by
  obtain ⟨b, o, ha, hc⟩ := h hp
  refine ⟨b, o, ha, fun j hj => ?_⟩
  have hlt : b < w.heap.size := block_lt_of_cell (hc j hj)
  rw [hb.cell (p := ⟨b, o + j, none⟩) (Nat.lt_of_lt_of_le hlt hB)]
  exact hc j hj

set_option maxRecDepth 100000 in
theorem sameInts_self (n ca cb : Nat) (b o b' o' : Nat) (zs : List Int) (w : World) (hl : zs.length = n) (hn : n ≤ 9223372036854775807)
    (h1 : ∀ j (h : j < zs.length), w.cell? ⟨b, o + j, none⟩ = some (.int .i64 zs[j])) (h2 : ∀ j (h : j < zs.length), w.cell? ⟨b', o' + j, none⟩ = some (.int .i64 zs[j])) :
    Calls Try.prog 44 #[.slice (some ⟨b, o, none⟩) n ca, .slice (some ⟨b', o', none⟩) n cb] w fun e w' => e = .returned (.bool true) ∧ Below w.heap.size w w' := by
  have Hl : Hid _ := hl
  have H1 : Hid _ := h1
  have H2 : Hid _ := h2
  clear hl h1 h2
  go_enter Try.func44, Try.ntmps44
  go_wp2_with fail
  go_loopw [5] (fun i wr => ∃ k : Nat, k ≤ n ∧ i = .int .i64 k ∧ ∃ q, wr = w.drewN q) (fun i _ => n - (intOf i).toNat)
  case atStart => exact ⟨0, Nat.zero_le _, rfl, 0, rfl⟩
  case round =>
    obtain ⟨k, hk, rfl, q, rfl⟩ := hrel
    by_cases hlt : k < n
    · have hk' : k < zs.length := by rw [Hl.out]; exact hlt
      have a1 : (w.drewN q).cell? ⟨b, o + k, none⟩ = some (.int .i64 zs[k]) := H1.out k hk'
      have a2 : (w.drewN q).cell? ⟨b', o' + k, none⟩ = some (.int .i64 zs[k]) := H2.out k hk'
      generalize (zs[k]'hk') = z at a1 a2
      have hlt2 : (k : Int) < n := by omega
      obtain ⟨V, hV⟩ : ∃ V, V = w.drewN q := ⟨_, rfl⟩
      rw [← hV] at a1 a2 ⊢
      have HV : Hid _ := hV
      clear hV
      go_wp2_with fail
      go_quiet (fail)
      have hz : ∃ q', V.drewN nq = w.drewN q' := by rw [HV.out]; exact ⟨q + nq, by simp [World.drewN, Nat.add_assoc]⟩
      obtain ⟨q', hq'⟩ := hz
      rw [hq']
      clear hq'
      go_wp2
      go_roundw
      case rel => exact ⟨k + 1, by omega, by go_num, q', rfl⟩
      case measure => simp [intOf]; omega
    · obtain rfl : k = n := by omega
      go_wp2
      go_ret
      exact ⟨rfl, ⟨rfl, rfl, rfl, Nat.le_refl _, fun _ _ => rfl⟩⟩
end Go.Proofs.Ytagnmmapnpcijaa
