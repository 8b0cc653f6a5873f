/-
  Write whatever it is given; Writes, Pending.
-/
import Derived.Test.YtagnmmapnpcijaaWrite
namespace Go.Proofs.Ytagnmmapnpcijaa
open Go.RowKit

set_option maxRecDepth 100000 in
theorem write_not {g : Nat} {w : World} {D : DS} {F : Nat → Prop} {gd cd : Nat} {vu : Value} {ps : List (Nat × Nat × Nat)} (h : Lies w g D F gd cd vu ps) (n : Int) (a : Option Addr) (len cb : Nat) (hn : D.has n = false) :
    Calls Try.prog 10 #[.pointer (some ⟨g, 0, none⟩), .int .i64 n, .slice a len cb] w fun e w' => e = .returned (.int .i64 70) ∧ w = w' := by
  have c := isMade_at h
  have cH := has_at h n
  rw [hn] at cH
  go_enter Try.func10, Try.ntmps10
  go_wp2_with fail
  refine c.mono ?_
  rintro e w' ⟨rfl, rfl⟩
  go_wp2_with fail
  refine cH.mono ?_
  rintro e w' ⟨rfl, rfl⟩
  go_wp2
  go_ret
  exact ⟨rfl, rfl⟩
set_option maxRecDepth 100000 in
theorem write_len {g : Nat} {w : World} {D : DS} {F : Nat → Prop} {gd cd : Nat} {vu : Value} {ps : List (Nat × Nat × Nat)} (h : Lies w g D F gd cd vu ps) (n : Int) (a : Option Addr) (len cb : Nat) (hn : D.has n = true) (hl : len ≠ 4096) :
    Calls Try.prog 10 #[.pointer (some ⟨g, 0, none⟩), .int .i64 n, .slice a len cb] w fun e w' => e = .returned (.int .i64 2) ∧ w = w' := by
  have c := isMade_at h
  have cH := has_at h n
  rw [hn] at cH
  have hl' : ((len : Int) != 4096) = true := by simp; omega
  go_enter Try.func10, Try.ntmps10
  go_wp2_with fail
  refine c.mono ?_
  rintro e w' ⟨rfl, rfl⟩
  go_wp2_with fail
  refine cH.mono ?_
  rintro e w' ⟨rfl, rfl⟩
  go_wp2
  go_ret
  exact ⟨rfl, rfl⟩
set_option maxRecDepth 100000 in
theorem write_stop {g : Nat} {w : World} {D : DS} {F : Nat → Prop} {gd cd : Nat} {vu : Value} {ps : List (Nat × Nat × Nat)} (h : Lies w g D F gd cd vu ps) (n : Int) (a : Option Addr) (cb : Nat) (hn : D.has n = true) (hE : D.operE ≠ 0) :
    Calls Try.prog 10 #[.pointer (some ⟨g, 0, none⟩), .int .i64 n, .slice a 4096 cb] w fun e w' => e = .returned (.int .i64 (D.operE : Int)) ∧ Lies w' g D.oper F gd cd vu ps ∧ w.grownBy w' (some g) := by
  have c := isMade_at h
  have cH := has_at h n
  rw [hn] at cH
  have cO := operation_at h
  generalize D.operE = E at cO hE ⊢
  have hE' : ((E : Int) != 0) = true := by simp; omega
  go_enter Try.func10, Try.ntmps10
  go_wp2_with fail
  refine c.mono ?_
  rintro e w' ⟨rfl, rfl⟩
  go_wp2_with fail
  refine cH.mono ?_
  rintro e w' ⟨rfl, rfl⟩
  go_wp2_with fail
  refine cO.mono ?_
  rintro e w1 ⟨rfl, h1, g1⟩
  go_wp2
  go_ret
  exact ⟨rfl, h1, g1⟩

/-- Write -/
theorem write_at {g : Nat} {w : World} {D : DS} {F : Nat → Prop} (hd : IsDisk w g D F) (n : Int) (a : Option Addr) (len cb : Nat) (b : List UInt8) (hb : b.length = len) (hlim : writeF D) (hr : Rd w a b) (hF : ∀ ad, a = some ad → ¬ F ad.block) :
    Calls Try.prog 10 #[.pointer (some ⟨g, 0, none⟩), .int .i64 n, .slice a len cb] w fun e w' => e = .returned (.int .i64 (D.writeE n b : Int)) ∧ (∃ F', IsDisk w' g (D.write n b) F' ∧ ∀ i, F' i → F i ∨ w.heap.size ≤ i) ∧ Upd F w w' := by
  obtain ⟨gd, cd, vu, ps, h⟩ := hd
  cases hh : D.has n with
  | false =>
    have e1 : D.writeE n b = 70 := by simp [DS.writeE, hh]
    have e2 : D.write n b = D := by simp [DS.write, hh]
    rw [e1, e2]
    refine (write_not h n a len cb hh).mono ?_
    rintro e w' ⟨rfl, rfl⟩
    exact ⟨rfl, ⟨F, ⟨_, _, _, _, h⟩, fun i hi => .inl hi⟩, Upd.refl _ _⟩
  | true =>
    by_cases hl : len = 4096
    · subst hl
      by_cases hE : D.operE = 0
      · have hn : 0 ≤ n ∧ n < D.nb := by simpa [DS.has] using hh
        obtain ⟨bn, rfl⟩ := Int.eq_ofNat_of_zero_le hn.1
        have e1 : D.writeE bn b = 0 := by simp [DS.writeE, hh, hb, hE]
        have e2 : D.write bn b = { D.oper with uf := D.uf ++ [(bn, b)], n := D.n + 1 } := by simp [DS.write, hh, hb, hE]
        rw [e1, e2]
        obtain ⟨b', o', rfl, _⟩ := hr (by omega)
        exact write_ok h bn cb _ b hb (by omega) hE hlim hr (hF _ rfl)
      · have e1 : D.writeE n b = D.operE := by simp [DS.writeE, hh, hb]
        have e2 : D.write n b = D.oper := by simp [DS.write, hh, hb, hE]
        rw [e1, e2]
        refine (write_stop h n a cb hh hE).mono ?_
        rintro e w' ⟨rfl, h1, g1⟩
        exact ⟨rfl, ⟨F, ⟨_, _, _, _, h1⟩, fun i hi => .inl hi⟩, (Upd.refl F w).grown g1 (fun k e => by cases e; exact .inl h.fg)⟩
    · have e1 : D.writeE n b = 2 := by simp [DS.writeE, hh, hb, hl]
      have e2 : D.write n b = D := by simp [DS.write, hh, hb, hl]
      rw [e1, e2]
      refine (write_len h n a len cb hh hl).mono ?_
      rintro e w' ⟨rfl, rfl⟩
      exact ⟨rfl, ⟨F, ⟨_, _, _, _, h⟩, fun i hi => .inl hi⟩, Upd.refl _ _⟩

theorem writes_at {g : Nat} {w : World} {D : DS} {F : Nat → Prop} (hd : IsDisk w g D F) :
    Calls Try.prog 14 #[.pointer (some ⟨g, 0, none⟩)] w fun e w' => e = .returned (.int .i64 (D.n : Int)) ∧ w = w' := by
  obtain ⟨gd, cd, vu, ps, h⟩ := hd
  have c := isMade_at h
  obtain ⟨_, _, _, c3, _⟩ := box_cells h.box
  go_enter Try.func14, Try.ntmps14
  go_wp2_with fail
  refine c.mono ?_
  rintro e w' ⟨rfl, rfl⟩
  go_wp2
  go_ret
  exact ⟨rfl, rfl⟩
theorem size_of {g : Nat} {w : World} {D : DS} {F : Nat → Prop} (hd : IsDisk w g D F) :
    Calls Try.prog 22 #[.pointer (some ⟨g, 0, none⟩)] w fun e w' => e = .returned (.int .i64 (D.nb : Int)) ∧ w = w' := by
  obtain ⟨gd, cd, vu, ps, h⟩ := hd
  exact size_at h

def ic (k : Nat) : Value := .int .i64 (k : Int)
theorem info3 : (Try.prog.info? 3).map (fun i => (i.zero, i.size, i.bytes)) = some (some (.int .i64 0), 1, 8) := by kernel_rfl

/-- the blocks of the first k writes -/
def pend (uf : List (Nat × List UInt8)) (k : Nat) : List Value := ((uf.take k).map (·.1)).map ic
theorem pend_succ (uf : List (Nat × List UInt8)) (k : Nat) (h : k < uf.length) : pend uf (k + 1) = pend uf k ++ [.int .i64 (uf[k].1 : Int)] := by
  unfold pend
  rw [List.take_succ_eq_append_getElem h, List.map_append, List.map_append]
  rfl
theorem pend_all (uf : List (Nat × List UInt8)) : pend uf uf.length = (uf.map (·.1)).map ic := by unfold pend; rw [List.take_length]

set_option maxRecDepth 100000 in
theorem pending_at {g : Nat} {w : World} {D : DS} {F : Nat → Prop} (hd : IsDisk w g D F) (hlim : D.uf.length ≤ 1000000) :
    Calls Try.prog 23 #[.pointer (some ⟨g, 0, none⟩)] w fun e w' => ∃ v, e = .returned v ∧ w'.ownsRow w.heap.size 3 1 v D.uf.length (pend D.uf D.uf.length) ∧ Below w.heap.size w w' := by
  obtain ⟨gd, cd, vu, ps, h⟩ := hd
  have c := isMade_at h
  obtain ⟨_, _, c2, _⟩ := box_cells h.box
  obtain ⟨i0, hi, hz0, hz1, hz2⟩ := info_parts info3
  by_cases h0 : 0 < D.uf.length
  · obtain ⟨gv, cu, cur, rfl, hcu, hmu, hbv, hcells⟩ := h.writes h0
    have Hcells : Hid _ := hcells
    have hlt := hbv.lt
    have Hlen : Hid _ := h.len
    obtain ⟨n, hn⟩ : ∃ n, n = D.uf.length := ⟨_, rfl⟩
    rw [← hn] at hcu c2 hlim ⊢
    have Hn : Hid _ := hn
    clear hcells h hn h0
    go_enter Try.func23, Try.ntmps23
    go_wp2_with fail
    refine c.mono ?_
    rintro e w' ⟨rfl, rfl⟩
    clear c
    go_wp2_with fail
    go_loopw [3, 14] (fun v i wr => ∃ k : Nat, k ≤ n ∧ i = .int .i64 k ∧ wr.ownsRow w.heap.size 3 1 v k (pend D.uf k) ∧ Below w.heap.size w wr) (fun _ i _ => n - (intOf i).toNat)
    case atStart => exact ⟨0, Nat.zero_le _, rfl, World.ownsRow_nil _ _ _ _, Below.refl _ _⟩
    case round =>
      obtain ⟨k, hk, rfl, hown, hbel⟩ := hrel
      by_cases hlt' : k < n
      · have hk' : k < D.uf.length := by rw [← Hn.out]; exact hlt'
        obtain ⟨a0, a1⟩ := Hcells.out k hk' (by rw [Hlen.out]; exact hk')
        have hsucc : Hid _ := pend_succ D.uf k hk'
        generalize (ps[k]'(by rw [Hlen.out]; exact hk')).2.1 = gk at a1
        generalize (ps[k]'(by rw [Hlen.out]; exact hk')).2.2 = ck at a1
        generalize (D.uf[k]'hk').1 = bn at a0 hsucc
        have a0' := (hbel.cell (p := ⟨gv, 0 + k * 2, none⟩) hlt).trans a0
        have a1' := (hbel.cell (p := ⟨gv, 0 + k * 2 + 1, none⟩) hlt).trans a1
        simp only [Nat.zero_add] at a0' a1'
        have z3 := hbel.size
        have own1 := (hown.alloc (.cells #[.int .i64 (bn : Int), .slice (some ⟨gk, 0, none⟩) 4096 ck] 79)).alloc (.cells #[.int .i64 (bn : Int)] 3)
        clear a0 a1
        go_wp2_with (at_builtin; refine wpList_append_own _ rfl _ _ 40 rfl w.heap.size 3 i0 (.int .i64 0) 1 8 Try.underlying40 hi hz0 hz1 hz2 rfl (by decide) _ k _ rfl own1 ⟨wr.heap.size + 1, 0, none⟩ 1 1 [.int .i64 (bn : Int)] rfl rfl ?c1 ?c2 ?c3 ?c4 ?c5 ?_)
        case c1 =>
          intro i u hi'
          match i, hi' with
          | 0, hi' => simp at hi'; subst hi'; simp [Addr.add]
        case c2 => intro u hu; simp at hu; subst hu; rfl
        case c3 => unfold maxLen; omega
        case c4 => omega
        case c5 => simp; omega
        · intro v' w4 hown4 hgrow _
          have B4 : Below w.heap.size w w4 := ((hbel.alloc z3 _).alloc (by simp; omega) _).grown hgrow (by simp; omega) (fun k hk => (hown.lt k hk).1)
          rw [← hsucc.out] at hown4
          clear hown hbel hgrow own1
          go_wp2
          go_roundw
          case rel => exact ⟨k + 1, by omega, by go_num, hown4, B4⟩
          case measure => simp [intOf]; omega
      · obtain rfl : k = n := by omega
        go_wp2
        go_ret
        exact ⟨_, rfl, hown, hbel⟩
  · have hn : D.uf.length = 0 := by omega
    rw [hn]
    have hp0 : pend D.uf 0 = [] := rfl
    rw [hp0]
    obtain ⟨av, cu, rfl⟩ : ∃ av cu, vu = .slice av 0 cu := by
      rcases h.row.2 with ⟨h1, _⟩ | ⟨gv, cu, cur, hv, _⟩
      · exact ⟨none, 0, h1⟩
      · exact ⟨some ⟨gv, 0, none⟩, cu, by rw [hv, hn]⟩
    clear h hn h0 hlim hp0
    go_enter Try.func23, Try.ntmps23
    go_wp2_with fail
    refine c.mono ?_
    rintro e w' ⟨rfl, rfl⟩
    go_wp2_with fail
    refine wp_loop_rounds 1 ?_
    rw [rounds_succ]
    go_wp2
    go_ret
    exact ⟨_, rfl, World.ownsRow_nil _ _ _ _, Below.refl _ _⟩
end Go.Proofs.Ytagnmmapnpcijaa
