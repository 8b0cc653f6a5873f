/-
  entriesOf.
-/
import Derived.Test.YtghcmlkgpedkkaaZeros
namespace Go.Proofs.Ytghcmlkgpedkkaa
open Go.RowKit

theorem info62 : (Try.prog.info? 62).map (fun i => (i.zero, i.size, i.bytes)) = some (some (.agg #[.int .i64 0, .slice none 0 0]), 2, 32) := by kernel_rfl
theorem two_cells {w : World} {g : Nat} {c0 c1 : Value} {t : TypeId} (h : Box w g #[c0, c1] t) : ∀ j u, ([c0, c1] : List Value)[j]? = some u → w.cell? ((⟨g, 0, none⟩ : Addr).add j) = some u := fun j u hj => by
  rw [Addr.add_lit, Nat.zero_add, h.cell j]
  simpa using hj

/-- entry i of a body -/
def entOf (BB : List UInt8) (i : Nat) : Nat × List UInt8 := (beNat ((BB.drop (6 + i * 66)).take 2), (BB.drop (8 + i * 66)).take 64)
def entsOf (BB : List UInt8) (n : Nat) : List (Nat × List UInt8) := (List.range n).map (entOf BB)
theorem entsOf_length (BB : List UInt8) (n : Nat) : (entsOf BB n).length = n := by simp [entsOf]
def entCell (BB : List UInt8) (g o cap i : Nat) : List Value := [.int .i64 ((entOf BB i).1 : Int), .slice (some ⟨g, o + (8 + i * 66), none⟩) 64 (cap - (8 + i * 66))]
def entCells (BB : List UInt8) (g o cap n : Nat) : List Value := (List.range n).flatMap (entCell BB g o cap)
theorem entCells_succ (BB : List UInt8) (g o cap n : Nat) : entCells BB g o cap (n + 1) = entCells BB g o cap n ++ entCell BB g o cap n := by simp [entCells, List.range_succ]
theorem entCells_at (BB : List UInt8) (g o cap n i : Nat) (h : i < n) : (entCells BB g o cap n)[i * 2]? = some (.int .i64 ((entOf BB i).1 : Int)) ∧ (entCells BB g o cap n)[i * 2 + 1]? = some (.slice (some ⟨g, o + (8 + i * 66), none⟩) 64 (cap - (8 + i * 66))) := by
  have hl : ∀ n, (entCells BB g o cap n).length = n * 2 := by
    intro n
    induction n with
    | zero => rfl
    | succ n ih => rw [entCells_succ, List.length_append, ih]; simp [entCell]; omega
  induction n with
  | zero => omega
  | succ n ih =>
    rw [entCells_succ]
    by_cases hi : i < n
    · obtain ⟨a, b⟩ := ih hi
      rw [List.getElem?_append_left (by rw [hl]; omega), List.getElem?_append_left (by rw [hl]; omega)]
      exact ⟨a, b⟩
    · obtain rfl : i = n := by omega
      rw [List.getElem?_append_right (by rw [hl]; omega), List.getElem?_append_right (by rw [hl]; omega), hl]
      have e1 : i * 2 - i * 2 = 0 := by omega
      have e2 : i * 2 + 1 - i * 2 = 1 := by omega
      rw [e1, e2]
      exact ⟨rfl, rfl⟩

/-- how many a body says -/
def cntOf (BB : List UInt8) : Nat := beNat (BB.take 2)

theorem numAt_body (BB : List UInt8) (k : Nat) (hl : BB.length = 4032) (h : k + 2 ≤ 4032) : numAt BB (k : Int) 2 = some (beNat ((BB.drop k).take 2)) := numAt_some (by omega)
theorem be2_lt (l : List UInt8) : beNat (l.take 2) < 65536 := by
  have h := beNat_lt (l.take 2)
  have h2 : (l.take 2).length ≤ 2 := by simp; omega
  exact Nat.lt_of_lt_of_le h (by
    have : 256 ^ (l.take 2).length ≤ 256 ^ 2 := Nat.pow_le_pow_right (by omega) h2
    omega)

set_option maxRecDepth 100000 in
set_option maxHeartbeats 4000000 in
theorem entriesOf_in (g o cap : Nat) (BB : List UInt8) (w : World) (hl : BB.length = 4032) (hcap : 4032 ≤ cap) (hmax : cap ≤ 9223372036854775807) (hr : Rd w (some ⟨g, o, none⟩) BB) (hc : cntOf BB ≤ 32) :
    Calls Try.prog 52 #[.slice (some ⟨g, o, none⟩) 4032 cap] w fun r w' => ∃ v, r = .returned v ∧ w'.ownsRow w.heap.size 62 2 v (cntOf BB) (entCells BB g o cap (cntOf BB)) ∧ Below w.heap.size w w' := by
  obtain ⟨i0, hi, hz0, hz1, hz2⟩ := info_parts info62
  have n0 : numAt BB 0 2 = some (cntOf BB) := by have := numAt_body BB 0 hl (by omega); simpa [cntOf] using this
  have nk : Hid (∀ k : Nat, k < 32 → numAt BB ((6 + k * 66 : Nat) : Int) 2 = some (entOf BB k).1) := fun k hk => by have := numAt_body BB (6 + k * 66) hl (by omega); simpa [entOf] using this
  have el : Hid (∀ k, (entOf BB k).1 < 65536) := fun k => be2_lt _
  have c1 := u16_at cap 4032 (some ⟨g, o, none⟩) BB 0 (cntOf BB) _ w rfl hl (by omega) hr n0
  obtain ⟨n, hn⟩ : ∃ n, n = cntOf BB := ⟨_, rfl⟩
  rw [← hn] at hc c1 ⊢
  clear hn n0
  have hci : (n : Int) ≤ 32 := by omega
  go_enter Try.func52, Try.ntmps52
  go_wp2_with fail
  refine c1.mono ?_
  rintro r w' ⟨rfl, rfl⟩
  clear c1
  go_wp2_with fail
  go_loopw [5, 20] (fun v i wr => ∃ k : Nat, k ≤ n ∧ i = .int .i64 k ∧ wr.ownsRow w.heap.size 62 2 v k (entCells BB g o cap k) ∧ Below w.heap.size w wr) (fun _ i _ => n - (intOf i).toNat)
  case atStart => exact ⟨0, Nat.zero_le _, rfl, World.ownsRow_nil _ _ _ _, Below.refl _ _⟩
  case round =>
    obtain ⟨k, hk, rfl, hown, hB⟩ := hrel
    by_cases hlt : k < n
    · have hlt2 : (k : Int) < n := by omega
      have c2 := u16_at cap 4032 (some ⟨g, o, none⟩) BB ((6 + k * 66 : Nat) : Int) (entOf BB k).1 _ wr rfl hl (by omega) (hr.below hB (Nat.le_refl _)) (nk.out k (by omega))
      have hsucc := entCells_succ BB g o cap k
      have hcell : entCell BB g o cap k = [.int .i64 ((entOf BB k).1 : Int), .slice (some ⟨g, o + (8 + k * 66), none⟩) 64 (cap - (8 + k * 66))] := rfl
      have hE := el.out k
      obtain ⟨E, hEE⟩ : ∃ E, E = (entOf BB k).1 := ⟨_, rfl⟩
      rw [← hEE] at c2 hcell hE
      clear hEE
      obtain ⟨m, hm⟩ : ∃ m, m = 6 + k * 66 := ⟨_, rfl⟩
      have e0 : (6 : Int) + (k : Int) * 66 = (m : Int) := by omega
      have e1 : 8 + k * 66 = m + 2 := by omega
      rw [← hm] at c2
      rw [e1] at hcell
      have hm2 : m + 66 ≤ 4032 := by omega
      have hcap2 : m + 66 ≤ cap := by omega
      have hne : ¬ cap = m + 2 := by omega
      have e2 : m + 2 + 64 - (m + 2) = 64 := by omega
      have Hm : Hid _ := hm
      have HS : Hid _ := hsucc
      have HC : Hid _ := hcell
      clear hm hsucc hcell e1
      go_wp2_with fail
      refine c2.mono ?_
      rintro r w' ⟨rfl, rfl⟩
      clear c2
      have hBa := (Below.refl wr.heap.size wr).alloc (Nat.le_refl _) (.cells #[.int .i64 (E : Int), .slice (some ⟨g, o + (m + 2), none⟩) 64 (cap - (m + 2))] 62)
      have bx := Box.new wr #[.int .i64 (E : Int), .slice (some ⟨g, o + (m + 2), none⟩) 64 (cap - (m + 2))] 62
      have B1 := hB.trans (hBa.mono hB.size)
      have ow1 := hown.alloc (.cells #[.int .i64 (E : Int), .slice (some ⟨g, o + (m + 2), none⟩) 64 (cap - (m + 2))] 62)
      obtain ⟨av, cv, rfl⟩ := owns_shape hown
      go_wp2_with (at_builtin; refine wpList_append_own _ rfl _ _ 55 rfl w.heap.size 62 i0 (.agg #[.int .i64 0, .slice none 0 0]) 2 32 Try.underlying55 hi hz0 hz1 hz2 rfl (by decide) _ k (entCells BB g o cap k) rfl ow1 ⟨wr.heap.size, 0, none⟩ 1 1 [.int .i64 (E : Int), .slice (some ⟨g, o + (m + 2), none⟩) 64 (cap - (m + 2))] rfl rfl (two_cells bx) ?c2 ?c3 ?c4 B1.size ?_)
      case c2 => intro u hu; simp at hu; rcases hu with rfl | rfl <;> rfl
      case c3 => unfold maxLen; omega
      case c4 => omega
      · intro v' w4 hown4 hgrow _
        have B4 := B1.grown hgrow B1.size (fun j e => (owns_block hown j e).1)
        rw [← HC.out, ← HS.out] at hown4
        clear hgrow ow1 bx hBa B1 hown hB
        go_wp2
        go_roundw
        case rel => exact ⟨k + 1, by omega, by go_num, hown4, B4⟩
        case measure => simp [intOf]; omega
    · obtain rfl : k = n := by omega
      go_wp2
      go_ret
      exact ⟨_, rfl, hown, hB⟩

set_option maxRecDepth 100000 in
/-- .. too many -/
theorem entriesOf_many (g o cap : Nat) (BB : List UInt8) (w : World) (hl : BB.length = 4032) (hr : Rd w (some ⟨g, o, none⟩) BB) (hc : 32 < cntOf BB) :
    Calls Try.prog 52 #[.slice (some ⟨g, o, none⟩) 4032 cap] w fun r w' => r = .returned (.slice none 0 0) ∧ w = w' := by
  have n0 : numAt BB 0 2 = some (cntOf BB) := by have := numAt_body BB 0 hl (by omega); simpa [cntOf] using this
  have c1 := u16_at cap 4032 (some ⟨g, o, none⟩) BB 0 (cntOf BB) _ w rfl hl (by omega) hr n0
  obtain ⟨n, hn⟩ : ∃ n, n = cntOf BB := ⟨_, rfl⟩
  rw [← hn] at hc c1
  clear hn n0
  have hci : (32 : Int) < n := by omega
  go_enter Try.func52, Try.ntmps52
  go_wp2_with fail
  refine c1.mono ?_
  rintro r w' ⟨rfl, rfl⟩
  go_wp2
  go_ret
  exact ⟨rfl, rfl⟩

/-- the row as entries -/
theorem entsOf_ents {w w' : World} {g o cap : Nat} {BB : List UInt8} {v : Value} (hl : BB.length = 4032) (hcap : 4032 ≤ cap) (hmax : cap ≤ 9223372036854775807) (hr : Rd w' (some ⟨g, o, none⟩) BB) (hc : cntOf BB ≤ 32)
    (hown : w'.ownsRow w.heap.size 62 2 v (cntOf BB) (entCells BB g o cap (cntOf BB))) : ∃ a c, v = .slice a (cntOf BB) c ∧ Ents w' a (entsOf BB (cntOf BB)) := by
  obtain ⟨a, c, rfl⟩ := owns_shape hown
  refine ⟨a, c, rfl, fun hp => ?_⟩
  rw [entsOf_length] at hp
  rcases hown.2 with ⟨hv, hn⟩ | ⟨gv, cap', cur, hv, _⟩
  · omega
  · have ha : a = some ⟨gv, 0, none⟩ := by simpa using (Value.slice.inj hv).1
    subst ha
    refine ⟨gv, 0, rfl, fun j hj => ?_⟩
    rw [entsOf_length] at hj
    obtain ⟨e1, e2⟩ := entCells_at BB g o cap (cntOf BB) j hj
    have hb : (Value.slice (some ⟨gv, 0, none⟩) (cntOf BB) c).ownBlock = some gv := rfl
    have k1 := hown.cells hb _ _ e1
    have k2 := hown.cells hb _ _ e2
    rw [Addr.add_lit] at k1 k2
    have hx : (entsOf BB (cntOf BB))[j]'(by rw [entsOf_length]; exact hj) = entOf BB j := by simp [entsOf]
    rw [hx]
    refine ⟨k1, g, o + (8 + j * 66), cap - (8 + j * 66), ?_, by omega, by omega, by simp [entOf]; omega, hr.part (8 + j * 66) 64⟩
    rw [Nat.add_assoc]
    exact k2
end Go.Proofs.Ytghcmlkgpedkkaa
