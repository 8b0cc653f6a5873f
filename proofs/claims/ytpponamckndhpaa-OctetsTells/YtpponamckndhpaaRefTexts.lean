/-
  The document's texts, and copies that must stay.
-/
import Derived.Test.YtpponamckndhpaaRef
import Derived.WalkKit
import Derived.WalkSpells
import Derived.WalkLawsBesides
namespace Go.Proofs.Ytpponamckndhpaa
open Go.RowKit

theorem growBy_le (need : Nat) : ∀ (r c : Nat), c ≤ need + (need + 768) / 4 → Builtin.growBy need r c ≤ need + (need + 768) / 4
  | 0, c, h => by simpa [Builtin.growBy] using h
  | r + 1, c, h => by
    unfold Builtin.growBy
    split
    · exact h
    · exact growBy_le need r _ (by omega)

theorem nextcap_le (need old : Nat) (h : old < need) (hn : need ≤ 140737488500000) : Builtin.nextslicecap need old ≤ 281474976710656 := by
  unfold Builtin.nextslicecap
  split
  · omega
  · split
    · omega
    · have := growBy_le need 4 old (by omega); omega

/-- a text behind a row of one's own -/
theorem append_str_run (u : World) (B g n cap : Nat) (xs p : List UInt8) (s : ByteArray) (m : Nat) (hs : s = ⟨p.toArray⟩) (hp : p.length = m) (hown : u.ownsRow B 5 1 (.slice (some ⟨g, 0, none⟩) n cap) n (bcs xs)) (hB : B ≤ u.heap.size) (hm : n + m ≤ 140737488500000) :
    ∃ g' cap' W, (∀ ty, (Builtin.append_ #[25, 9] ty #[.slice (some ⟨g, 0, none⟩) n cap, .string s]).run Try.prog u = .ok (.slice (some ⟨g', 0, none⟩) (n + m) cap') W) ∧ W.ownsRow B 5 1 (.slice (some ⟨g', 0, none⟩) (n + m) cap') (n + m) (bcs (xs ++ p)) ∧ u.grownBy W (some g) := by
  obtain ⟨i, hi, hz0, hz1, hz2⟩ := info_parts info5
  have hsz : s.size = m := by rw [hs, ← hp]; simp [ByteArray.size]
  have hsc : Lib.strCells s = bcs p := by rw [hs]; simp [Lib.strCells, bcs, bc]
  have hxl : (bcs xs).length = n := by simpa using hown.1
  have hlen : (bcs xs ++ bcs p).length = (n + m) * 1 := by rw [List.length_append, hxl, bcs_length, hp, Nat.mul_one]
  rw [bcs_append]
  rcases hown.2 with ⟨h, _⟩ | ⟨g0, cap0, cur, hv, hbg, hg, hnc, hcm, hcs, htake⟩
  · simp at h
  · simp only [Value.slice.injEq, Option.some.injEq, Addr.mk.injEq, and_true, true_and] at hv
    obtain ⟨rfl, rfl⟩ := hv
    by_cases hroom : n + m ≤ cap
    · have hcs' : cur.size = cap := by simpa using hcs
      refine ⟨g, cap, u.setRow g (cur.toList.take n ++ bcs p ++ cur.toList.drop (n + m)).toArray, fun ty => ?_, ⟨hlen, .inr ⟨g, cap, _, rfl, hbg, setRow_heap u g cur _ 5 _ hg, hroom, hcm, ?_, ?_⟩⟩, grown_setRow _ _ _⟩
      · have hr := Lib.run_append_room_string (P := Try.prog) u 25 9 ty 5 i Try.underlying25 Try.underlying9 hi hz1 g n cap cur hg s (by omega) (by omega)
        rw [hr, hsz, hsc]
      · simp only [List.size_toArray, List.length_append, List.length_take, List.length_drop, Array.length_toList, bcs_length]
        omega
      · have ht' : cur.toList.take n = bcs xs := by simpa using htake
        rw [ht', ← hlen]
        exact List.take_left
    · have holds : ∀ j x, (bcs xs)[j]? = some x → u.cell? ((⟨g, 0, none⟩ : Addr).add j) = some x := hown.cells (g := g) rfl
      have hge := grownCap_ge u (n + m) cap 5
      have hcm' : grownCap u (n + m) cap 5 ≤ maxLen := grownCap_le_maxLen u (n + m) cap 5 (by unfold maxLen; omega)
      refine ⟨u.heap.size, grownCap u (n + m) cap 5, u.drew.alloc (.cells ((bcs xs).toArray ++ (bcs p).toArray ++ Builtin.zeroCells (Value.int .u8 0).cells (grownCap u (n + m) cap 5 - (n + m))) 5), fun ty => ?_, ⟨hlen, .inr ⟨u.heap.size, _, _, rfl, hB, heap_alloc_new u.drew _, hge, hcm', ?_, ?_⟩⟩, ⟨rfl, rfl, rfl, by simp, fun k hk _ => Below.heap_alloc u.drew _ k hk⟩⟩
      · have hr := Lib.run_append_grow_string (P := Try.prog) u 25 9 ty 5 i (.int .u8 0) Try.underlying25 Try.underlying9 hi hz0 ⟨g, 0, none⟩ n cap (bcs xs) (by rw [hz1]; simpa using hxl) holds s (by omega) (by omega) (by rw [hz2, Nat.mul_one]; exact nextcap_le _ _ (by omega) (by omega))
        rw [hr, hsz, hsc]
      · have hz1 : (Value.int IntKind.u8 0).cells.size = 1 := rfl
        simp only [Array.size_append, List.size_toArray, size_zeroCells, hz1, bcs_length, hp]
        rw [bcs_length] at hxl
        omega
      · simp only [Array.toList_append, List.append_assoc]
        rw [← List.append_assoc, ← hlen]
        exact List.take_left

/-- an append whose run is known, in the walk -/
theorem wpList_append_ran {w : World} {ops : Array Oper} {rest : List Oper} {o : Oper} {a : Act} {Q : Exit → Act → World → Prop} (hgd : o.guard = none) (sl x : Operand) (t u : TypeId)
    (ho : o.op = .call { callee := .builtin .append, args := #[sl, x], argTypes := #[t, u] }) (v s v' : Value) (W : World) (hs : a.eval sl = v) (hx : a.eval x = s)
    (hrun : ∀ ty, (Builtin.append_ #[t, u] ty #[v, s]).run Try.prog w = .ok v' W) (h : wpList Try.prog ops Q rest (a.put o.dst v') W) : wpList Try.prog ops Q (o :: rest) a w := by
  refine wpList_plain hgd fun K hK => ?_
  unfold Oper.wp execOp
  simp only [ho, resolve, invoke, builtin, Sem.run_bind, Sem.run_pure, Result.andThen_ok, List.map_toArray, List.map_cons, List.map_nil, hs, hx, hrun]
  exact hK _ _ h

theorem refAddText_long (a : Option Addr) (n cap : Nat) (s : ByteArray) (w : World) (hs : s.size ≤ 9223372036854775807) (hl : 65535 < s.size) :
    Calls Try.prog 22 #[.slice a n cap, .string s] w fun e w' => e = .returned (.tuple #[.slice none 0 0, .int .i64 3]) ∧ w = w' := by
  go_enter Try.func22, Try.ntmps22
  go_wp2
  go_ret2
  exact ⟨rfl, rfl⟩

theorem refAddText_at (cap n m : Nat) (a : Option Addr) (xs p : List UInt8) (s : ByteArray) (w : World) (hl : xs.length = n) (hs : s = ⟨p.toArray⟩) (hp : p.length = m) (hm : m ≤ 65535) (hn : n ≤ 140737488351232) (hr : Rd w a xs) (hnil : a = none → cap = 0) :
    Calls Try.prog 22 #[.slice a n cap, .string s] w fun e w' => ∃ g cap', e = .returned (.tuple #[.slice (some ⟨g, 0, none⟩) (n + 2 + m) cap', .int .i64 0]) ∧ Rd w' (some ⟨g, 0, none⟩) (xs ++ (toBE 2 m ++ p)) ∧ Below w.heap.size w w' := by
  have hz : s.size = m := by rw [hs, ← hp]; simp [ByteArray.size]
  have Hl : Hid (xs.length = n) := hl
  have Hs : Hid (s = ⟨p.toArray⟩) := hs
  have Hp : Hid (p.length = m) := hp
  clear hl hs hp
  go_enter Try.func22, Try.ntmps22
  go_wp2_with (go_at_call 18; refine (refAdd_at cap n 2 a xs m _ _ w (by omega) rfl Hl.out (by omega) (by omega) (by omega) (by omega) hr hnil).mono ?_)
  rintro e w1 ⟨v, rfl, ho, hb⟩
  obtain ⟨al, cl, hval, hll, hlc, hlm, hrl, hpos⟩ := owns_rd ho
  obtain ⟨g, rfl, hg0, hg1⟩ := hpos (by omega)
  subst hval
  obtain ⟨g', cap', W, hrun, hoW, hgW⟩ := append_str_run w1 w.heap.size g (n + 2) cl _ p s m Hs.out Hp.out ho hb.size (by omega)
  have hbW : Below w.heap.size w W := hb.grown hgW hb.size (fun k hk => by simp at hk; omega)
  obtain ⟨a2, c2, hv2, _, _, _, hr2, _⟩ := owns_rd hoW
  simp only [Value.slice.injEq, true_and] at hv2
  obtain ⟨rfl, rfl⟩ := hv2
  rw [List.append_assoc] at hr2
  clear ho hb hll hlm hrl hpos hoW hgW hr hnil
  go_wp2_with (at_builtin; refine wpList_append_ran rfl _ _ 25 9 rfl _ _ _ W rfl rfl hrun ?_)
  go_ret2
  exact ⟨g', cap', rfl, hr2, hbW⟩

theorem refText_none (a : Option Addr) (cap : Nat) (xs : List UInt8) (i : Int) (w : World) (hn : xs.length ≤ 9223372036854775807) (hr : Rd w a xs) (h : numAt xs i 2 = none) :
    Calls Try.prog 23 #[.slice a xs.length cap, .int .i64 i] w fun e w' => e = .returned (.tuple #[.string ⟨#[]⟩, .int .i64 0, .bool false]) ∧ w = w' := by
  go_enter Try.func23, Try.ntmps23
  go_wp2_with (go_at_call 15; refine (refNumber_at cap xs.length a xs i 2 _ _ rfl rfl (by omega) (by omega) hn hr).mono ?_; rintro e w' ⟨rfl, rfl⟩; rw [h])
  go_ret3
  exact ⟨rfl, rfl⟩

theorem refText_cut (a : Option Addr) (cap : Nat) (xs : List UInt8) (k n : Nat) (w : World) (hn : xs.length ≤ 281474976710656) (hr : Rd w a xs) (hk : k + 2 ≤ xs.length) (h : numAt xs k 2 = some n) (hl : n < 65536) (hc : xs.length < k + 2 + n) :
    Calls Try.prog 23 #[.slice a xs.length cap, .int .i64 k] w fun e w' => e = .returned (.tuple #[.string ⟨#[]⟩, .int .i64 0, .bool false]) ∧ w = w' := by
  go_enter Try.func23, Try.ntmps23
  go_wp2_with (go_at_call 15; refine (refNumber_at cap xs.length a xs k 2 _ _ rfl rfl (by omega) (by omega) (by omega) hr).mono ?_; rintro e w' ⟨rfl, rfl⟩; rw [h])
  go_ret3
  exact ⟨rfl, rfl⟩

theorem refText_whole (b o cap : Nat) (xs : List UInt8) (k n : Nat) (w : World) (hn : xs.length ≤ 281474976710656) (hcap : xs.length ≤ cap) (hm : cap ≤ 9223372036854775807)
    (hc : ∀ j (h : j < xs.length), w.cell? ⟨b, o + j, none⟩ = some (.int .u8 (xs[j].toNat : Int))) (h : numAt xs k 2 = some n) (hl : k + 2 + n ≤ xs.length) :
    Calls Try.prog 23 #[.slice (some ⟨b, o, none⟩) xs.length cap, .int .i64 k] w fun e w' => e = .returned (.tuple #[.string ⟨((xs.drop (k + 2)).take n).toArray⟩, .int .i64 ((k + 2 + n : Nat) : Int), .bool true]) ∧ w = w' := by
  have hr : Rd w (some ⟨b, o, none⟩) xs := fun _ => ⟨b, o, rfl, hc⟩
  have hn2 : n < 65536 := by have := numAt_lt xs k 2; rw [h] at this; simpa using this
  have hlen : ((xs.drop (k + 2)).take n).length = n := by simp; omega
  have hcv := fun a' (ha : 0 < n → a' = some ⟨b, o + (k + 2), none⟩) => conv_run w a' (cap - (k + 2)) ((xs.drop (k + 2)).take n) (fun hp => ⟨b, o + (k + 2), ha (by omega), fun j hj => by
    have hj' : j < n := by omega
    have e : ((xs.drop (k + 2)).take n)[j] = xs[k + 2 + j]'(by omega) := by simp
    rw [e, Nat.add_assoc o (k + 2) j]
    exact hc (k + 2 + j) (by omega)⟩)
  rw [hlen] at hcv
  clear hlen
  by_cases h0 : n = 0
  · subst h0
    clear hcv
    have hcv' : ∀ a' c, (convert 25 9 (.slice a' 0 c)).run Try.prog w = .ok (.string ⟨#[]⟩) w := fun a' c => conv_run w a' c [] (Rd.nil _ _)
    go_enter Try.func23, Try.ntmps23
    go_wp2_with (go_at_call 15; refine (refNumber_at cap xs.length (some ⟨b, o, none⟩) xs k 2 _ _ rfl rfl (by omega) (by omega) (by omega) hr).mono ?_; rintro e w' ⟨rfl, rfl⟩; rw [h])
    all_goals (go_ret3; exact ⟨rfl, rfl⟩)
  · have hcv' := hcv (some ⟨b, o + (k + 2), none⟩) (fun _ => rfl)
    have hne : ¬ cap = k + 2 := by omega
    have e2 : k + 2 + n - (k + 2) = n := by omega
    clear hcv
    go_enter Try.func23, Try.ntmps23
    go_wp2_with (go_at_call 15; refine (refNumber_at cap xs.length (some ⟨b, o, none⟩) xs k 2 _ _ rfl rfl (by omega) (by omega) (by omega) hr).mono ?_; rintro e w' ⟨rfl, rfl⟩; rw [h])
    go_ret3
    exact ⟨rfl, rfl⟩

theorem refText_any (a : Option Addr) (cap : Nat) (xs : List UInt8) (i : Int) (w : World) (hn : xs.length ≤ 281474976710656) (hcap : xs.length ≤ cap) (hm : cap ≤ 9223372036854775807) (hr : Rd w a xs) :
    Calls Try.prog 23 #[.slice a xs.length cap, .int .i64 i] w fun e w' => e = .returned (.tuple #[.string ⟨((textAt xs i).getD ([], 0)).1.toArray⟩, .int .i64 (((textAt xs i).getD ([], 0)).2 : Nat), .bool (textAt xs i).isSome]) ∧ w = w' := by
  unfold textAt
  cases h : numAt xs i 2 with
  | none => exact refText_none a cap xs i w (by omega) hr h
  | some n =>
    have hi : 0 ≤ i ∧ i + 2 ≤ xs.length := by
      apply Decidable.byContradiction
      intro hc
      rw [numAt_none (by simpa using hc)] at h
      simp at h
    obtain ⟨k, rfl⟩ := Int.eq_ofNat_of_zero_le hi.1
    have hk : k + 2 ≤ xs.length := by omega
    have hn2 : n < 65536 := by have := numAt_lt xs k 2; rw [h] at this; simpa using this
    simp only [Int.toNat_natCast]
    by_cases hl : k + 2 + n ≤ xs.length
    · rw [if_pos hl]
      obtain ⟨b, o, rfl, hc⟩ := hr (by omega)
      exact refText_whole b o cap xs k n w hn hcap hm hc h hl
    · rw [if_neg hl]
      exact refText_cut a cap xs k n w hn hr hk h hn2 (by omega)

theorem Rd.head {w : World} {a : Option Addr} {xs ys : List UInt8} (h : Rd w a (xs ++ ys)) : Rd w a xs := fun hp => by
  obtain ⟨b, o, ha, hc⟩ := h (by simp; omega)
  refine ⟨b, o, ha, fun j hj => ?_⟩
  rw [hc j (by simp; omega), List.getElem_append_left hj]

/-- a copy that must be as it was, its room too -/
theorem kept_at (g cap ca n : Nat) (b : Option Addr) (xs : List UInt8) (w : World) (hl : xs.length = n) (hn : n ≤ 140737488355300) (hc : n + 3 ≤ cap) (hr : Rd w (some ⟨g, 0, none⟩) (xs ++ [77, 78, 79])) (hb : Rd w b xs) :
    Calls Try.prog 24 #[.slice (some ⟨g, 0, none⟩) n cap, .slice b n ca] w fun e w' => e = .returned (.bool true) ∧ w = w' := by
  obtain ⟨b', o', he, hcell⟩ := hr (by simp)
  simp only [Option.some.injEq, Addr.mk.injEq, and_true] at he
  obtain ⟨rfl, rfl⟩ := he
  have c0 : w.cell? ⟨g, n, none⟩ = some (.int .u8 77) := by
    have := hcell n (by simp; omega)
    rw [Nat.zero_add] at this
    rw [this]; simp [List.getElem_append_right, hl]
  have c1 : w.cell? ⟨g, n + 1, none⟩ = some (.int .u8 78) := by
    have := hcell (n + 1) (by simp; omega)
    rw [Nat.zero_add] at this
    rw [this]; simp [List.getElem_append_right, hl]
  have c2 : w.cell? ⟨g, n + 2, none⟩ = some (.int .u8 79) := by
    have := hcell (n + 2) (by simp; omega)
    rw [Nat.zero_add] at this
    rw [this]; simp [List.getElem_append_right, hl]
  have hh := hr.head
  have Hl : Hid (xs.length = n) := hl
  clear hcell hr hl
  go_enter Try.func24, Try.ntmps24
  go_wp2_with fail
  refine (same_at _ _ n n _ _ xs xs w Hl.out Hl.out hh hb).mono ?_
  rintro e w' ⟨rfl, rfl⟩
  go_wp2
  go_ret
  exact ⟨rfl, rfl⟩
end Go.Proofs.Ytpponamckndhpaa
