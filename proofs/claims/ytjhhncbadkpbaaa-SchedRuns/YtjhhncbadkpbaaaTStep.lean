/-
  Step of the law's tasks.
-/
import Derived.Test.YtjhhncbadkpbaaaTask
namespace Go.Proofs.Ytjhhncbadkpbaaa
open Go.RowKit

theorem step_append_at {P : Program} {ops : Array Oper} {o : Oper} {a : Act} {w : World} {K : Act → World → Prop} {Q : Exit → Act → World → Prop} {E : Prop}
    (hg : o.guard = none) (s x : Operand) (t : TypeId) (hop : o.op = Op.call { callee := Callee.builtin Builtin.append, args := #[s, x], argTypes := #[t, t] })
    (base : Nat) (e : TypeId) (i : TypeInfo) (z : Value) (size bytes : Nat) (h1 : P.underlying t = some (.slice e)) (h2 : P.info? e = some i) (h3 : i.zero = some z) (h4 : i.size = size) (h5 : i.bytes = bytes) (h6 : z.cells.size = size) (h7 : 0 < size)
    (v : Value) (n : Nat) (olds : List Value) (hs : a.eval s = v) (hown : w.ownsRow base e size v n olds)
    (ad : Addr) (m c : Nat) (news : List Value) (hx : a.eval x = .slice (some ad) m c) (hn : news.length = m * size) (hc : ∀ j u, news[j]? = some u → w.cell? (ad.add j) = some u) (h1c : ∀ u ∈ news, u.oneCell' = true)
    (b1 : n + m ≤ maxLen) (b2 : (n + m) * bytes ≤ 140737488355328) (hbase : base ≤ w.heap.size)
    (hK : ∀ v' w', w'.ownsRow base e size v' (n + m) (olds ++ news) → w.grownBy w' v.ownBlock → (v'.ownBlock = v.ownBlock ∨ v'.ownBlock = some w.heap.size) → K (a.put o.dst v') w') :
    if Region.wanted o (yielded ops a.tmps) = true then Oper.wp P o a w K Q else E := by
  have hw : Region.wanted o (yielded ops a.tmps) = true := by simp [Region.wanted, hg]
  rw [if_pos hw]
  obtain ⟨v', w', hrun, r1, r2, _, r3⟩ := run_append_own_at (P := P) w base t o.type e i z size bytes h1 h2 h3 h4 h5 h6 h7 v n olds hown ad m c news hn hc h1c b1 b2 hbase
  unfold Oper.wp
  simp [execOp, hop, resolve, invoke, builtin, hs, hx, hrun, Result.andThen]
  exact hK v' w' r1 r2 r3
theorem infoB : (Try.prog.info? 4).map (fun i => (i.zero, i.size, i.bytes)) = some (some (.bool false), 1, 1) := by kernel_rfl

theorem KtF.refl (F : Nat → Prop) (p : TypeId → Prop) (w : World) : KtF F p w w := fun _ _ _ h _ _ => h
theorem KtF.trans {F : Nat → Prop} {p : TypeId → Prop} {a b c : World} (h : KtF F p a b) (k : KtF F p b c) : KtF F p a c := fun i cs t x hp hn => k i cs t (h i cs t x hp hn) hp hn
theorem KtF.of {F : Nat → Prop} {p : TypeId → Prop} {a b : World} (h : Kt p a b) : KtF F p a b := fun i cs t x hp _ => h i cs t x hp
theorem KtF.mono {F F' : Nat → Prop} {p p' : TypeId → Prop} {a b : World} (h : KtF F p a b) (hF : ∀ k, F k → F' k) (hp : ∀ t, p' t → p t) : KtF F' p' a b := fun i cs t x h1 h2 => h i cs t x (hp t h1) (fun e => h2 (hF i e))
theorem KtF.setCell {F : Nat → Prop} {p : TypeId → Prop} {a b : World} (h : KtF F p a b) (g j : Nat) (v : Value) (hg : F g) : KtF F p a (b.setCell ⟨g, j, none⟩ v) := fun i cs t x h1 h2 => (h i cs t x h1 h2).other g j v (fun e => h2 (e ▸ hg))
theorem KtF.grown {F : Nat → Prop} {p : TypeId → Prop} {a b c : World} {row : Option Nat} (h : KtF F p a b) (hg : b.grownBy c row) (hr : ∀ k, row = some k → F k) : KtF F p a c := fun i cs t x h1 h2 => (hg.block i (h i cs t x h1 h2).lt (fun e => h2 (hr i e.symm))).trans (h i cs t x h1 h2)

structure StepTo (w : World) (B s : Nat) (S' : SS) (tb bb tg : Nat) (la : Option Addr) (ln lc n : Nat) (tv : Value) (told' : List Bool) (bad : Bool) (w' : World) : Prop where
  is : IsS w' B s S'
  tw : ∃ tv', TW w' B tb bb tv' told' bad ∧ ∀ k, tv'.ownBlock = some k → tv.ownBlock = some k ∨ w.heap.size ≤ k
  tk : Box w' tg (tkC s la ln lc (n + 1) tb bb) 51
  bel : Below B w w'
  kt : KtF (fun k => k = tg ∨ k = tb ∨ tv.ownBlock = some k) Oth w w'

/-- the world in which a step has begun: the law's own block for what it does, and its place counted on -/
structure Beg (w : World) (B s : Nat) (S : SS) (tb bb tg : Nat) (la : Option Addr) (ln lc n : Nat) (tv : Value) (told : List Bool) (bad : Bool) (dg : Nat) (d : Do3) (W : World) : Prop where
  is : IsS W B s S
  tw : TW W B tb bb tv told bad
  tk : Box W tg (tkC s la ln lc (n + 1) tb bb) 51
  dx : Box W dg (doC d) 45
  bel : Below B w W
  kt : KtF (fun k => k = tg) (fun _ => True) w W
  sz : w.heap.size ≤ W.heap.size
theorem Beg.drew {w : World} {B s : Nat} {S : SS} {tb bb tg : Nat} {la : Option Addr} {ln lc n : Nat} {tv : Value} {told : List Bool} {bad : Bool} {dg : Nat} {d : Do3} {W : World} (h : Beg w B s S tb bb tg la ln lc n tv told bad dg d W) (q : Nat) : Beg w B s S tb bb tg la ln lc n tv told bad dg d (W.drewN q) :=
  have hk : Kt (fun _ => True) W (W.drewN q) := fun _ _ _ x _ => x
  ⟨h.is.kt hk trivial trivial trivial, h.tw.kt hk trivial trivial, h.tk, h.dx, Below.drewN h.bel q, fun i cs t x a b => h.kt i cs t x a b, h.sz⟩
theorem Beg.make {w : World} {B s : Nat} {S : SS} (h : IsS w B s S) {tb bb tg : Nat} {la : Option Addr} {ln lc n : Nat} {tv : Value} {told : List Bool} {bad : Bool} (hT : TW w B tb bb tv told bad) (hk : Box w tg (tkC s la ln lc n tb bb) 51) (hbg : B ≤ tg) {dg : Nat} {d : Do3} {W0 : World} (hb : Below w.heap.size w W0) (hx : Box W0 dg (doC d) 45) (hdg : dg ≠ tg) :
    Beg w B s S tb bb tg la ln lc n tv told bad dg d (W0.setCell ⟨tg, 2, none⟩ (.int .i64 ((n : Int) + 1))) := by
  have hB := h.hB
  have k0 : Kt (fun _ => True) w W0 := Kt.below hb
  have hk0 := k0 _ _ _ hk trivial
  have k1 : Kt (fun t => t ≠ 51) w (W0.setCell ⟨tg, 2, none⟩ (.int .i64 ((n : Int) + 1))) := (k0.mono (fun _ _ => trivial)).setCell hk0 (by simp) 2 _
  have e1 := hk0.store 2 (.int .i64 ((n : Int) + 1))
  refine ⟨h.kt k1 (by decide) (by decide) (by decide), hT.kt k1 (by decide) (by decide), ?_, hx.other _ _ _ hdg, (hb.mono hB).setCell (p := ⟨tg, 2, none⟩) hbg _, (KtF.of k0).setCell tg 2 _ rfl, by have := hb.size; simpa using this⟩
  exact e1
/-- a step that wakes nobody -/
theorem Beg.quit {w : World} {B s : Nat} {S : SS} {tb bb tg : Nat} {la : Option Addr} {ln lc n : Nat} {tv : Value} {told : List Bool} {bad : Bool} {dg : Nat} {d : Do3} {W : World} (h : Beg w B s S tb bb tg la ln lc n tv told bad dg d W) : StepTo w B s S tb bb tg la ln lc n tv told bad W :=
  ⟨h.is, ⟨tv, h.tw, fun _ hk => .inl hk⟩, h.tk, h.bel, h.kt.mono (fun _ hk => .inl hk) (fun _ _ => trivial)⟩
/-- what Wake and the list's growing leave -/
theorem Beg.told {w : World} {B s : Nat} {S S' : SS} {tb bb tg : Nat} {la : Option Addr} {ln lc n : Nat} {tv : Value} {told : List Bool} {bad : Bool} {dg : Nat} {d : Do3} {W W2 : World} (h : Beg w B s S tb bb tg la ln lc n tv told bad dg d W) (hT : To W B s S' W2) (b : Bool) :
    (W2.cell? ⟨tg, 3, none⟩ = some (ptr tb) ∧ W2.cell? ⟨tg, 0, none⟩ = some (ptr s) ∧ W2.cell? ⟨dg, 1, none⟩ = some (.int .i64 d.wake)) ∧ W2.cell? ⟨tb, 0, none⟩ = some tv ∧ (W2.alloc (.cells #[.bool b] 4)).cell? ⟨tb, 0, none⟩ = some tv ∧ Box (W2.alloc (.cells #[.bool b] 4)) W2.heap.size #[.bool b] 4 ∧ (W2.alloc (.cells #[.bool b] 4)).ownsRow B 4 1 tv told.length (told.map Value.bool) ∧
    ∀ v4 W4, W4.ownsRow B 4 1 v4 (told.length + 1) (told.map Value.bool ++ [.bool b]) → (W2.alloc (.cells #[.bool b] 4)).grownBy W4 tv.ownBlock → (v4.ownBlock = tv.ownBlock ∨ v4.ownBlock = some (W2.alloc (.cells #[.bool b] 4)).heap.size) →
      (W4.cell? ⟨tg, 3, none⟩ = some (ptr tb) ∧ W4.cell? ⟨tg, 0, none⟩ = some (ptr s) ∧ W4.cell? ⟨dg, 1, none⟩ = some (.int .i64 d.wake)) ∧
      ((W4.setCell ⟨tb, 0, none⟩ v4).cell? ⟨tg, 3, none⟩ = some (ptr tb) ∧ (W4.setCell ⟨tb, 0, none⟩ v4).cell? ⟨tg, 0, none⟩ = some (ptr s) ∧ (W4.setCell ⟨tb, 0, none⟩ v4).cell? ⟨dg, 1, none⟩ = some (.int .i64 d.wake)) ∧
      W4.cell? ⟨tb, 0, none⟩ = some tv ∧ W4.frozen? ⟨tb, 0, none⟩ = false ∧ (∃ a n c, v4 = .slice a n c) ∧
      StepTo w B s S' tb bb tg la ln lc n tv (told ++ [b]) bad (W4.setCell ⟨tb, 0, none⟩ v4) ∧ (W4.setCell ⟨tb, 0, none⟩ v4).cell? ⟨dg, 0, none⟩ = some (.int .i64 d.tell) := by
  have hO : ∀ t, t = 51 ∨ t = 45 ∨ t = 25 ∨ t = 4 → Oth t := by rintro t (rfl | rfl | rfl | rfl) <;> exact ⟨by decide, by decide, by decide⟩
  have tk2 := hT.kt _ _ _ h.tk (hO 51 (by simp))
  have dx2 := hT.kt _ _ _ h.dx (hO 45 (by simp))
  have tw2 := h.tw.kt hT.kt (hO 25 (by simp)) (hO 4 (by simp))
  have hB2 : B ≤ W2.heap.size := Nat.le_trans h.is.hB hT.bel.size
  have kA : Kt (fun _ => True) W2 (W2.alloc (.cells #[.bool b] 4)) := (Kt.refl _ _).alloc _
  have twA := tw2.kt kA trivial trivial
  refine ⟨⟨tk2.cell 3, tk2.cell 0, dx2.cell 1⟩, tw2.tbox.cell 0, twA.tbox.cell 0, Box.new _ _ _, twA.row, fun v4 W4 ho hg hw => ?_⟩
  rw [show (W2.alloc (.cells #[.bool b] 4)).heap.size = W2.heap.size + 1 by simp] at hw
  have k4 : Kt (fun t => t ≠ 4) W2 W4 := (kA.mono (fun _ _ => trivial)).grown hg 4 (fun k hk => ownsRow_box twA.row k hk) (by simp)
  have tk4 := k4 _ _ _ tk2 (by decide)
  have dx4 := k4 _ _ _ dx2 (by decide)
  have tb4 := k4 _ _ _ tw2.tbox (by decide)
  have n1 : tg ≠ tb := tk4.ne tb4 (by decide)
  have n2 : dg ≠ tb := dx4.ne tb4 (by decide)
  have tk5 := tk4.other tb 0 v4 n1
  have dx5 := dx4.other tb 0 v4 n2
  have k5 : Kt (fun t => t ≠ 25) W4 (W4.setCell ⟨tb, 0, none⟩ v4) := (Kt.refl _ _).setCell tb4 (by simp) 0 v4
  have bb4 : Box W4 bb #[.bool bad] 4 := (hg.block bb twA.bbox.lt (fun e => tw2.apt e.symm)).trans twA.bbox
  obtain ⟨a4, c4, hv4⟩ := ownsRow_slice ho
  refine ⟨⟨tk4.cell 3, tk4.cell 0, dx4.cell 1⟩, ⟨tk5.cell 3, tk5.cell 0, dx5.cell 1⟩, tb4.cell 0, tb4.frozen 0, ⟨a4, _, c4, hv4⟩, ⟨?_, ⟨v4, ⟨?_, ?_, ?_, k5 _ _ _ bb4 (by decide), tw2.ht, tw2.hb⟩, ?_⟩, tk5, ?_, ?_⟩, dx5.cell 0⟩
  · exact (hT.is.kt k4 (by decide) (by decide) (by decide)).kt k5 (by decide) (by decide) (by decide)
  · exact tb4.store 0 v4
  · rw [List.length_append, List.map_append]
    exact ownsRow_kt ho k5 (by decide)
  · rcases hw with h1 | h1
    · rw [h1]; exact tw2.apt
    · rw [h1]
      have := tw2.bbox.lt
      intro e
      injection e with e
      omega
  · intro k hk
    rcases hw with h1 | h1
    · exact .inl (h1 ▸ hk)
    · rw [h1] at hk
      injection hk with hk
      have h2 := h.sz
      have h3 := hT.bel.size
      exact .inr (by omega)
  · refine ((h.bel.trans hT.bel).trans ?_).setCell (p := ⟨tb, 0, none⟩) tw2.ht v4
    exact ((Below.refl B W2).alloc hB2 _).grown hg (by simp; omega) (fun k hk => (twA.row.lt k hk).1)
  · have q1 : KtF (fun k => k = tg ∨ k = tb ∨ tv.ownBlock = some k) Oth w W2 := (h.kt.mono (fun _ hk => .inl hk) (fun _ _ => trivial)).trans (KtF.of hT.kt)
    have q2 : KtF (fun k => k = tg ∨ k = tb ∨ tv.ownBlock = some k) Oth w (W2.alloc (.cells #[.bool b] 4)) := q1.trans (KtF.of (kA.mono (fun _ _ => trivial)))
    exact (q2.grown hg (fun k hk => .inr (.inr hk))).setCell tb 0 v4 (.inr (.inl rfl))
set_option maxRecDepth 20000 in
set_option maxHeartbeats 4000000 in
theorem tStep_calm {w : World} {B s : Nat} {S : SS} (h : IsS w B s S) (i : Nat) (hnow : S.now = some i) {tb bb tg n ln lc : Nat} {tv : Value} {told : List Bool} {bad : Bool} (hT : TW w B tb bb tv told bad) {la : Option Addr} {xs : List Do3} (hk : Box w tg (tkC s la ln lc n tb bb) 51) (hl : DoRow w B la xs) (hln : xs.length = ln) (hbg : B ≤ tg) (hn1 : n < 1000000) (hn : n < ln) (d : Do3) (hd : xs[n]? = some d) (hw0 : d.wake = 0) :
    Calls Try.prog 54 #[ptr tg] w fun r w' => r = .returned (.int .u8 (d.tell % 7)) ∧ StepTo w B s S tb bb tg la ln lc n tv told bad w' := by
  have Hw0 : Hid (d.wake = 0) := hw0
  clear hw0
  obtain ⟨b, o, rfl, hcs, hm⟩ := hl (by omega)
  have hd' := (List.getElem?_eq_some_iff.1 hd)
  obtain ⟨x0, x1, x2⟩ := hcs n (by omega)
  rw [hd'.2] at x0 x1 x2
  have k0 : w.cell? ⟨tg, 0, none⟩ = some (ptr s) := hk.cell 0
  have k1 : w.cell? ⟨tg, 1, none⟩ = some (.slice (some ⟨b, o, none⟩) ln lc) := hk.cell 1
  have k2 : w.cell? ⟨tg, 2, none⟩ = some (.int .i64 (n : Int)) := hk.cell 2
  have hni : (n : Int) < (ln : Int) := by omega
  have hlt := hk.lt
  have hblt : b < w.heap.size := block_lt_of_cell x0
  have Hh : Hid (IsS w B s S) := h
  have HhT : Hid (TW w B tb bb tv told bad) := hT
  have Hhk : Hid (Box w tg (tkC s (some ⟨b, o, none⟩) ln lc n tb bb) 51) := hk
  obtain ⟨dg, hdg⟩ : ∃ dg, dg = w.heap.size := ⟨_, rfl⟩
  have Hdg : Hid (dg = w.heap.size) := hdg
  unfold ptr at *
  clear hd hd' hcs h hT hk hl hm hdg
  go_enter Try.func54, Try.ntmps54
  go_wp2_with fail
  go_quiet (fail)
  go_wp2_with fail
  go_region
  have BG : ∀ q, Beg w B s S tb bb tg (some ⟨b, o, none⟩) ln lc n tv told bad w.heap.size d ((((((w.alloc (.cells #[.int .i64 0, .int .i64 0, .bool false] 45)).drewN q).setCell ⟨w.heap.size, 0, none⟩ (.int .i64 d.tell)).setCell ⟨w.heap.size, 1, none⟩ (.int .i64 d.wake)).setCell ⟨w.heap.size, 2, none⟩ (.bool d.inner)).setCell ⟨tg, 2, none⟩ (.int .i64 ((n : Int) + 1))) := fun q => by
    refine Beg.make Hh.out HhT.out Hhk.out hbg ?_ ?_ (by omega)
    · exact (((Below.drewN ((Below.refl _ _).alloc (Nat.le_refl _) _) q).setCell (p := ⟨w.heap.size, 0, none⟩) (Nat.le_refl _) _).setCell (p := ⟨w.heap.size, 1, none⟩) (Nat.le_refl _) _).setCell (p := ⟨w.heap.size, 2, none⟩) (Nat.le_refl _) _
    · exact ((((Box.new w _ 45).drew q).store 0 _).store 1 _).store 2 _
  have BX : ∀ q, Box (((((w.alloc (.cells #[.int .i64 0, .int .i64 0, .bool false] 45)).drewN q).setCell ⟨w.heap.size, 0, none⟩ (.int .i64 d.tell)).setCell ⟨w.heap.size, 1, none⟩ (.int .i64 d.wake)).setCell ⟨w.heap.size, 2, none⟩ (.bool d.inner)) tg (tkC s (some ⟨b, o, none⟩) ln lc n tb bb) 51 := fun q => ((((Hhk.out.alloc _).drew q).other _ _ _ (by omega)).other _ _ _ (by omega)).other _ _ _ (by omega)
  have bg := BG (nq + 1)
  have bx := BX (nq + 1)
  clear BG BX k0 k1 k2 x0 x1 x2
  generalize (((((w.alloc (.cells #[.int .i64 0, .int .i64 0, .bool false] 45)).drewN (nq + 1)).setCell ⟨w.heap.size, 0, none⟩ (.int .i64 d.tell)).setCell ⟨w.heap.size, 1, none⟩ (.int .i64 d.wake)).setCell ⟨w.heap.size, 2, none⟩ (.bool d.inner)) = W0 at bg bx ⊢
  have k2 : W0.cell? ⟨tg, 2, none⟩ = some (.int .i64 (n : Int)) := bx.cell 2
  have f2 := bx.frozen 2
  obtain ⟨W1, hW1⟩ : ∃ W1, W0.setCell ⟨tg, 2, none⟩ (.int .i64 ((n : Int) + 1)) = W1 := ⟨_, rfl⟩
  rw [hW1, ← Hdg.out] at bg
  rw [← Hdg.out]
  have HBG : Hid (Beg w B s S tb bb tg (some ⟨b, o, none⟩) ln lc n tv told bad dg d W1) := bg
  have e0 : W1.cell? ⟨dg, 0, none⟩ = some (.int .i64 d.tell) := bg.dx.cell 0
  have e1 : W1.cell? ⟨dg, 1, none⟩ = some (.int .i64 d.wake) := bg.dx.cell 1
  have e2 : W1.cell? ⟨dg, 2, none⟩ = some (.bool d.inner) := bg.dx.cell 2
  have t0 : W1.cell? ⟨tg, 0, none⟩ = some (.pointer (some ⟨s, 0, none⟩)) := bg.tk.cell 0
  clear bg bx hlt hblt hni
  have cP := pick_busy HBG.out.is i hnow 0
  unfold ptr at cP
  rw [Hw0.out] at e1
  cases hin : d.inner with
  | false =>
    rw [hin] at e2
    clear cP
    go_wp2_with fail
    refine Calls.mono (kitPick_at d.tell 7 W1 (by decide) (by decide)) ?_
    rintro r W6 ⟨rfl, hW6⟩
    subst W6
    go_wp2_with fail
    go_ret
    exact ⟨rfl, HBG.out.quit⟩
  | true =>
    rw [hin] at e2
    go_wp2_with fail
    refine Calls.mono cP ?_
    rintro r Wx ⟨rfl, hWx⟩
    subst Wx
    clear cP
    go_wp2_with fail
    refine Calls.mono (kitPick_at d.tell 7 W1 (by decide) (by decide)) ?_
    rintro r W6 ⟨rfl, hW6⟩
    subst W6
    go_wp2_with fail
    go_ret
    exact ⟨rfl, HBG.out.quit⟩
set_option maxRecDepth 20000 in
set_option maxHeartbeats 4000000 in
theorem tStep_wake {w : World} {B s : Nat} {S : SS} (h : IsS w B s S) (i : Nat) (hnow : S.now = some i) {tb bb tg n ln lc : Nat} {tv : Value} {told : List Bool} {bad : Bool} (hT : TW w B tb bb tv told bad) {la : Option Addr} {xs : List Do3} (hk : Box w tg (tkC s la ln lc n tb bb) 51) (hl : DoRow w B la xs) (hln : xs.length = ln) (hbg : B ≤ tg) (hn1 : n < 1000000) (hn : n < ln) (d : Do3) (hd : xs[n]? = some d) (hw0 : d.wake ≠ 0) (hst : ∀ e ∈ S.E, e.st < 200) (hGl : S.G.length < 1000000) (hLl : S.L.length < 1000000) (htl : told.length < 1000000) :
    Calls Try.prog 54 #[ptr tg] w fun r w' => r = .returned (.int .u8 (d.tell % 7)) ∧ StepTo w B s (S.wake d.wake).1 tb bb tg la ln lc n tv (told ++ [(S.wake d.wake).2]) bad w' := by
  obtain ⟨S', hS'⟩ : ∃ S', S' = (S.wake d.wake).1 := ⟨_, rfl⟩
  obtain ⟨wb, hwb⟩ : ∃ wb, wb = (S.wake d.wake).2 := ⟨_, rfl⟩
  obtain ⟨told', htd⟩ : ∃ told', told' = told ++ [wb] := ⟨_, rfl⟩
  rw [← hS', ← hwb, ← htd]
  have HS' : Hid (S' = (S.wake d.wake).1) := hS'
  have Hwb : Hid (wb = (S.wake d.wake).2) := hwb
  have Htd : Hid (told' = told ++ [wb]) := htd
  clear hS' hwb htd
  obtain ⟨b, o, rfl, hcs, hm⟩ := hl (by omega)
  have hd' := (List.getElem?_eq_some_iff.1 hd)
  obtain ⟨x0, x1, x2⟩ := hcs n (by omega)
  rw [hd'.2] at x0 x1 x2
  have k0 : w.cell? ⟨tg, 0, none⟩ = some (ptr s) := hk.cell 0
  have k1 : w.cell? ⟨tg, 1, none⟩ = some (.slice (some ⟨b, o, none⟩) ln lc) := hk.cell 1
  have k2 : w.cell? ⟨tg, 2, none⟩ = some (.int .i64 (n : Int)) := hk.cell 2
  have hni : (n : Int) < (ln : Int) := by omega
  have hlt := hk.lt
  have hblt : b < w.heap.size := block_lt_of_cell x0
  have Hh : Hid (IsS w B s S) := h
  have HhT : Hid (TW w B tb bb tv told bad) := hT
  have Hhk : Hid (Box w tg (tkC s (some ⟨b, o, none⟩) ln lc n tb bb) 51) := hk
  obtain ⟨dg, hdg⟩ : ∃ dg, dg = w.heap.size := ⟨_, rfl⟩
  have Hdg : Hid (dg = w.heap.size) := hdg
  unfold ptr at *
  clear hd hd' hcs h hT hk hl hm hdg
  go_enter Try.func54, Try.ntmps54
  go_wp2_with fail
  go_quiet (fail)
  go_wp2_with fail
  go_region
  have BG : ∀ q, Beg w B s S tb bb tg (some ⟨b, o, none⟩) ln lc n tv told bad w.heap.size d ((((((w.alloc (.cells #[.int .i64 0, .int .i64 0, .bool false] 45)).drewN q).setCell ⟨w.heap.size, 0, none⟩ (.int .i64 d.tell)).setCell ⟨w.heap.size, 1, none⟩ (.int .i64 d.wake)).setCell ⟨w.heap.size, 2, none⟩ (.bool d.inner)).setCell ⟨tg, 2, none⟩ (.int .i64 ((n : Int) + 1))) := fun q => by
    refine Beg.make Hh.out HhT.out Hhk.out hbg ?_ ?_ (by omega)
    · exact (((Below.drewN ((Below.refl _ _).alloc (Nat.le_refl _) _) q).setCell (p := ⟨w.heap.size, 0, none⟩) (Nat.le_refl _) _).setCell (p := ⟨w.heap.size, 1, none⟩) (Nat.le_refl _) _).setCell (p := ⟨w.heap.size, 2, none⟩) (Nat.le_refl _) _
    · exact ((((Box.new w _ 45).drew q).store 0 _).store 1 _).store 2 _
  have BX : ∀ q, Box (((((w.alloc (.cells #[.int .i64 0, .int .i64 0, .bool false] 45)).drewN q).setCell ⟨w.heap.size, 0, none⟩ (.int .i64 d.tell)).setCell ⟨w.heap.size, 1, none⟩ (.int .i64 d.wake)).setCell ⟨w.heap.size, 2, none⟩ (.bool d.inner)) tg (tkC s (some ⟨b, o, none⟩) ln lc n tb bb) 51 := fun q => ((((Hhk.out.alloc _).drew q).other _ _ _ (by omega)).other _ _ _ (by omega)).other _ _ _ (by omega)
  have bg := BG (nq + 1)
  have bx := BX (nq + 1)
  clear BG BX k0 k1 k2 x0 x1 x2
  generalize (((((w.alloc (.cells #[.int .i64 0, .int .i64 0, .bool false] 45)).drewN (nq + 1)).setCell ⟨w.heap.size, 0, none⟩ (.int .i64 d.tell)).setCell ⟨w.heap.size, 1, none⟩ (.int .i64 d.wake)).setCell ⟨w.heap.size, 2, none⟩ (.bool d.inner)) = W0 at bg bx ⊢
  have k2 : W0.cell? ⟨tg, 2, none⟩ = some (.int .i64 (n : Int)) := bx.cell 2
  have f2 := bx.frozen 2
  obtain ⟨W1, hW1⟩ : ∃ W1, W0.setCell ⟨tg, 2, none⟩ (.int .i64 ((n : Int) + 1)) = W1 := ⟨_, rfl⟩
  rw [hW1, ← Hdg.out] at bg
  rw [← Hdg.out]
  have HBG : Hid (Beg w B s S tb bb tg (some ⟨b, o, none⟩) ln lc n tv told bad dg d W1) := bg
  have e0 : W1.cell? ⟨dg, 0, none⟩ = some (.int .i64 d.tell) := bg.dx.cell 0
  have e1 : W1.cell? ⟨dg, 1, none⟩ = some (.int .i64 d.wake) := bg.dx.cell 1
  have e2 : W1.cell? ⟨dg, 2, none⟩ = some (.bool d.inner) := bg.dx.cell 2
  have t0 : W1.cell? ⟨tg, 0, none⟩ = some (.pointer (some ⟨s, 0, none⟩)) := bg.tk.cell 0
  clear bg bx hlt hblt hni
  have cP := pick_busy HBG.out.is i hnow 0
  unfold ptr at cP
  obtain ⟨ta, tc, htv⟩ := ownsRow_slice HhT.out.row
  have bgd : Beg w B s S tb bb tg (some ⟨b, o, none⟩) ln lc n tv told bad dg d W1.drew := HBG.out.drew 1
  have cW := wake_at bgd.is d.wake hst hGl hLl
  rw [← HS'.out, ← Hwb.out] at cW
  have HS0 : Hid (W1.drew.cell? ⟨tg, 3, none⟩ = some (.pointer (some ⟨tb, 0, none⟩)) ∧ W1.drew.cell? ⟨tg, 0, none⟩ = some (.pointer (some ⟨s, 0, none⟩)) ∧ W1.drew.cell? ⟨dg, 1, none⟩ = some (.int .i64 d.wake)) := ⟨bgd.tk.cell 3, bgd.tk.cell 0, bgd.dx.cell 1⟩
  have HA : Hid (∀ W2, To W1.drew B s S' W2 → _) := fun W2 hT2 => bgd.told hT2 wb
  have HZ : Hid (∀ W2, To W1.drew B s S' W2 → B ≤ W2.heap.size) := fun W2 hT2 => Nat.le_trans bgd.is.hB hT2.bel.size
  have HSa : Hid (∀ u : World, (u.cell? ⟨tg, 3, none⟩ = some (.pointer (some ⟨tb, 0, none⟩)) ∧ u.cell? ⟨tg, 0, none⟩ = some (.pointer (some ⟨s, 0, none⟩)) ∧ u.cell? ⟨dg, 1, none⟩ = some (.int .i64 d.wake)) → ∀ ob, ((u.alloc ob).cell? ⟨tg, 3, none⟩ = some (.pointer (some ⟨tb, 0, none⟩)) ∧ (u.alloc ob).cell? ⟨tg, 0, none⟩ = some (.pointer (some ⟨s, 0, none⟩)) ∧ (u.alloc ob).cell? ⟨dg, 1, none⟩ = some (.int .i64 d.wake))) := fun u hu ob => ⟨Lib.cell?_alloc_some _ hu.1, Lib.cell?_alloc_some _ hu.2.1, Lib.cell?_alloc_some _ hu.2.2⟩
  have c9 : W1.drew.cell? ⟨tb, 0, none⟩ = some tv := bgd.tw.tbox.cell 0
  obtain ⟨i0, hi0, hz0, hz1, hz2⟩ := info_parts infoB
  obtain ⟨ts, hts⟩ : ∃ ts, ts = told.map Value.bool := ⟨_, rfl⟩
  obtain ⟨nt, hnt⟩ : ∃ nt, nt = told.length := ⟨_, rfl⟩
  rw [← hts, ← hnt] at HA
  have hntl : nt < 1000000 := by omega
  rw [← Htd.out] at HA
  rw [← hnt] at htv
  subst htv
  clear hts hnt bgd
  unfold ptr at *
  cases hin : d.inner with
  | false =>
    rw [hin] at e2
    clear cP
    go_wp2_with fail
    refine wp_region_noPanic ?_
    refine wp_region_held_drew (S := fun u => u.cell? ⟨tg, 3, none⟩ = some (.pointer (some ⟨tb, 0, none⟩)) ∧ u.cell? ⟨tg, 0, none⟩ = some (.pointer (some ⟨s, 0, none⟩)) ∧ u.cell? ⟨dg, 1, none⟩ = some (.int .i64 d.wake)) (by kernel_rfl) HS0.out (fun hHeld => ?_)
    refine wpAnyH_take (i := 0) (v := ?_) rfl (by kernel_rfl) (by kernel_rfl) (by kernel_rfl) (fun _ _ _ h => h) (Or.inl ⟨by rfl, ?_⟩) (by assumption) ?_
    rotate_left
    · intro u hSu
      obtain ⟨q1, q2, q3⟩ := hSu
      go_simp
      with_reducible rfl
    simp only [Act.put, List.setIfInBounds_toArray, List.set_cons_zero, List.set_cons_succ, List.getElem_toArray, List.getElem_cons_zero]
    refine wpAnyH_take (i := 1) (v := ?_) rfl (by kernel_rfl) (by kernel_rfl) (by kernel_rfl) (fun _ _ _ h => h) (Or.inl ⟨by rfl, ?_⟩) (by assumption) ?_
    rotate_left
    · intro u hSu
      obtain ⟨q1, q2, q3⟩ := hSu
      go_simp
      with_reducible rfl
    simp only [Act.put, List.setIfInBounds_toArray, List.set_cons_zero, List.set_cons_succ, List.getElem_toArray, List.getElem_cons_zero, List.getElem_cons_succ]
    refine wpAnyH_take (i := 2) (v := ?_) rfl (by kernel_rfl) (by kernel_rfl) (by kernel_rfl) (fun _ _ _ h => h) (Or.inl ⟨by rfl, ?_⟩) (by assumption) ?_
    rotate_left
    · intro u hSu
      obtain ⟨q1, q2, q3⟩ := hSu
      go_simp
      with_reducible rfl
    simp only [Act.put, List.setIfInBounds_toArray, List.set_cons_zero, List.set_cons_succ, List.getElem_toArray, List.getElem_cons_zero, List.getElem_cons_succ]
    refine wpAnyH_take (i := 3) (v := ?_) rfl (by kernel_rfl) (by kernel_rfl) (by kernel_rfl) (fun _ _ _ h => h) (Or.inl ⟨by rfl, ?_⟩) (by assumption) ?_
    rotate_left
    · intro u hSu
      obtain ⟨q1, q2, q3⟩ := hSu
      go_simp
      with_reducible rfl
    simp only [Act.put, List.setIfInBounds_toArray, List.set_cons_zero, List.set_cons_succ, List.getElem_toArray, List.getElem_cons_zero, List.getElem_cons_succ]
    refine wpAnyH_take (i := 4) (v := ?_) rfl (by kernel_rfl) (by kernel_rfl) (by kernel_rfl) (fun _ _ _ h => h) (Or.inl ⟨by rfl, ?_⟩) (by assumption) ?_
    rotate_left
    · intro u hSu
      obtain ⟨q1, q2, q3⟩ := hSu
      go_simp
      with_reducible rfl
    simp only [Act.put, List.setIfInBounds_toArray, List.set_cons_zero, List.set_cons_succ, List.getElem_toArray, List.getElem_cons_zero, List.getElem_cons_succ]
    refine wpAnyH_take (i := 5) (v := ?_) rfl (by kernel_rfl) (by kernel_rfl) (by kernel_rfl) (fun _ _ _ h => h) (Or.inl ⟨by rfl, ?_⟩) (by assumption) ?_
    rotate_left
    · intro u hSu
      obtain ⟨q1, q2, q3⟩ := hSu
      go_simp
      with_reducible rfl
    simp only [Act.put, List.setIfInBounds_toArray, List.set_cons_zero, List.set_cons_succ, List.getElem_toArray, List.getElem_cons_zero, List.getElem_cons_succ]
    refine wpAnyH_take (i := 6) (v := ?_) rfl (by kernel_rfl) (by kernel_rfl) (by kernel_rfl) (fun _ _ _ h => h) (Or.inl ⟨by rfl, ?_⟩) (by assumption) ?_
    rotate_left
    · intro u hSu
      obtain ⟨q1, q2, q3⟩ := hSu
      go_simp
      with_reducible rfl
    simp only [Act.put, List.setIfInBounds_toArray, List.set_cons_zero, List.set_cons_succ, List.getElem_toArray, List.getElem_cons_zero, List.getElem_cons_succ]
    refine wpAnyH_take (i := 7) (v := ?_) rfl (by kernel_rfl) (by kernel_rfl) (by kernel_rfl) (fun _ _ _ h => h) (Or.inl ⟨by rfl, ?_⟩) (by assumption) ?_
    rotate_left
    · intro u hSu
      obtain ⟨q1, q2, q3⟩ := hSu
      go_simp
      with_reducible rfl
    simp only [Act.put, List.setIfInBounds_toArray, List.set_cons_zero, List.set_cons_succ, List.getElem_toArray, List.getElem_cons_zero, List.getElem_cons_succ]
    refine wpAnyH_take (i := 8) (v := ?_) rfl (by kernel_rfl) (by kernel_rfl) (by kernel_rfl) (fun _ _ _ h => h) (Or.inl ⟨by rfl, ?_⟩) (by assumption) ?_
    rotate_left
    · intro u hSu
      obtain ⟨q1, q2, q3⟩ := hSu
      go_simp
      with_reducible rfl
    simp only [Act.put, List.setIfInBounds_toArray, List.set_cons_zero, List.set_cons_succ, List.getElem_toArray, List.getElem_cons_zero, List.getElem_cons_succ]
    refine wpAnyH_take (i := 10) (v := ?_) rfl (by kernel_rfl) (by kernel_rfl) (by kernel_rfl) (fun _ _ _ h => h) (Or.inl ⟨by rfl, ?_⟩) (by assumption) ?_
    rotate_left
    · intro u hSu
      obtain ⟨q1, q2, q3⟩ := hSu
      go_simp
      with_reducible rfl
    simp only [Act.put, List.setIfInBounds_toArray, List.set_cons_zero, List.set_cons_succ, List.getElem_toArray, List.getElem_cons_zero, List.getElem_cons_succ]
    refine wpAnyH_take (i := 11) (v := ?_) rfl (by kernel_rfl) (by kernel_rfl) (by kernel_rfl) (fun _ _ _ h => h) (Or.inl ⟨by rfl, ?_⟩) (by assumption) ?_
    rotate_left
    · intro u hSu
      obtain ⟨q1, q2, q3⟩ := hSu
      go_simp
      with_reducible rfl
    simp only [Act.put, List.setIfInBounds_toArray, List.set_cons_zero, List.set_cons_succ, List.getElem_toArray, List.getElem_cons_zero, List.getElem_cons_succ]
    refine wpAnyH_take (i := 12) (v := ?_) rfl (by kernel_rfl) (by kernel_rfl) (by kernel_rfl) (fun _ _ _ h => h) (Or.inl ⟨by rfl, ?_⟩) (by assumption) ?_
    rotate_left
    · intro u hSu
      obtain ⟨q1, q2, q3⟩ := hSu
      go_simp
      with_reducible rfl
    simp only [Act.put, List.setIfInBounds_toArray, List.set_cons_zero, List.set_cons_succ, List.getElem_toArray, List.getElem_cons_zero, List.getElem_cons_succ]
    refine wpAnyH_take (i := 13) (v := ?_) rfl (by kernel_rfl) (by kernel_rfl) (by kernel_rfl) (fun _ _ _ h => h) (Or.inl ⟨by rfl, ?_⟩) (by assumption) ?_
    rotate_left
    · intro u hSu
      obtain ⟨q1, q2, q3⟩ := hSu
      go_simp
      with_reducible rfl
    simp only [Act.put, List.setIfInBounds_toArray, List.set_cons_zero, List.set_cons_succ, List.getElem_toArray, List.getElem_cons_zero, List.getElem_cons_succ]
    refine wpAnyH_take (i := 14) (v := ?_) rfl (by kernel_rfl) (by kernel_rfl) (by kernel_rfl) (fun _ _ _ h => h) (Or.inl ⟨by rfl, ?_⟩) (by assumption) ?_
    rotate_left
    · intro u hSu
      obtain ⟨q1, q2, q3⟩ := hSu
      go_simp
      with_reducible rfl
    simp only [Act.put, List.setIfInBounds_toArray, List.set_cons_zero, List.set_cons_succ, List.getElem_toArray, List.getElem_cons_zero, List.getElem_cons_succ]
    refine wpAnyH_take (i := 15) (v := ?_) rfl (by kernel_rfl) (by kernel_rfl) (by kernel_rfl) (fun _ _ _ h => h) (Or.inl ⟨by rfl, ?_⟩) (by assumption) ?_
    rotate_left
    · intro u hSu
      obtain ⟨q1, q2, q3⟩ := hSu
      go_simp
      with_reducible rfl
    simp only [Act.put, List.setIfInBounds_toArray, List.set_cons_zero, List.set_cons_succ, List.getElem_toArray, List.getElem_cons_zero, List.getElem_cons_succ]
    have hS1 := HS0.out
    refine wpAnyH_ready (rs := [9, 16]) (by kernel_rfl) (by simp) ?_
    refine AllReadyH.cons rfl (fun K hK => ?_) (AllReadyH.cons rfl (fun K hK => ?_) AllReadyH.nil)
    · go_simp
      refine hK.out _ _ (hS1) (fun hHeld => ?_)
      clear hK K
      refine wpAnyH_ready (rs := [16]) (by kernel_rfl) (by simp) ?_
      refine AllReadyH.cons rfl (fun K hK => ?_) AllReadyH.nil
      go_simp
      refine Calls.mono cW ?_
      rintro r W2 ⟨rfl, T2⟩
      obtain ⟨hS2, d9, d9a, hx9, own2, HFin⟩ := HA.out W2 T2
      have HT2 : Hid (To W1.drew B s S' W2) := T2
      refine hK.out _ _ hS2 (fun hHeld => ?_)
      clear hK K T2 cW c9
      refine wpAnyH_ready (rs := [17]) (by kernel_rfl) (by simp) ?_
      refine AllReadyH.cons rfl (fun K hK => ?_) AllReadyH.nil
      go_simp
      refine hK.out _ _ (HSa.out _ hS2 _) (fun hHeld => ?_)
      clear hK K
      refine wpAnyH_ready (rs := [18]) (by kernel_rfl) (by simp) ?_
      refine AllReadyH.cons rfl (fun K hK => ?_) AllReadyH.nil
      refine step_append_at rfl (.tmp 64) (.tmp 72) 25 rfl B 4 i0 (.bool false) 1 1 Try.underlying25 hi0 hz0 hz1 hz2 rfl (by decide) (.slice ta nt tc) nt _ rfl own2 ⟨W2.heap.size, 0, none⟩ 1 1 [.bool wb] rfl rfl (one_cell hx9) ?_ ?_ ?_ ?_ ?_
      · intro u hu; simp at hu; subst hu; rfl
      · unfold maxLen; omega
      · omega
      · have := HZ.out W2 HT2.out; simp; omega
      intro v4 W4 hown4 hgrow4 hwhere4
      obtain ⟨hS4, hS5, d4, f4, hv4, hfin⟩ := HFin v4 W4 hown4 hgrow4 hwhere4
      obtain ⟨a4, n4, c4, rfl⟩ := hv4
      refine hK.out _ _ hS4 (fun hHeld => ?_)
      clear hK K hown4 hgrow4 hwhere4
      refine wpAnyH_take (i := 19) (v := ?_) rfl (by kernel_rfl) (by kernel_rfl) (by kernel_rfl) (fun _ _ _ h => h) (Or.inl ⟨by rfl, ?_⟩) (by assumption) ?_
      rotate_left
      · intro u hSu
        obtain ⟨q1, q2, q3⟩ := hSu
        go_simp
        with_reducible rfl
      simp only [Act.put, List.setIfInBounds_toArray, List.set_cons_zero, List.set_cons_succ, List.getElem_toArray, List.getElem_cons_zero, List.getElem_cons_succ]
      refine wpAnyH_ready (rs := [20]) (by kernel_rfl) (by simp) ?_
      refine AllReadyH.cons rfl (fun K hK => ?_) AllReadyH.nil
      go_simp
      refine hK.out _ _ hS5 (fun hHeld => ?_)
      clear hK K
      refine wpAnyH_done (by kernel_rfl) ?_ _
      refine NoPanic.normal ?_
      have HE : Hid (StepTo w B s S' tb bb tg (some ⟨b, o, none⟩) ln lc n (.slice ta nt tc) told' bad (W4.setCell ⟨tb, 0, none⟩ (.slice a4 n4 c4)) ∧ (W4.setCell ⟨tb, 0, none⟩ (.slice a4 n4 c4)).cell? ⟨dg, 0, none⟩ = some (.int .i64 d.tell)) := hfin
      have d5 := hfin.2
      clear hHeld hS4 hS5 hfin d4 f4 HFin hS2 d9 d9a hx9 own2 HT2
      generalize W4.setCell ⟨tb, 0, none⟩ (.slice a4 n4 c4) = W5 at HE d5 ⊢
      go_wp2_with fail
      refine Calls.mono (kitPick_at d.tell 7 W5 (by decide) (by decide)) ?_
      rintro r W6 ⟨rfl, hW6⟩
      subst W6
      go_wp2_with fail
      go_ret
      exact ⟨rfl, HE.out.1⟩
    · go_simp
      refine Calls.mono cW ?_
      rintro r W2 ⟨rfl, T2⟩
      obtain ⟨hS2, d9, d9a, hx9, own2, HFin⟩ := HA.out W2 T2
      have HT2 : Hid (To W1.drew B s S' W2) := T2
      refine hK.out _ _ hS2 (fun hHeld => ?_)
      clear hK K T2 cW c9
      refine wpAnyH_ready (rs := [9, 17]) (by kernel_rfl) (by simp) ?_
      refine AllReadyH.cons rfl (fun K hK => ?_) (AllReadyH.cons rfl (fun K hK => ?_) AllReadyH.nil)
      · go_simp
        refine hK.out _ _ (hS2) (fun hHeld => ?_)
        clear hK K
        refine wpAnyH_ready (rs := [17]) (by kernel_rfl) (by simp) ?_
        refine AllReadyH.cons rfl (fun K hK => ?_) AllReadyH.nil
        go_simp
        refine hK.out _ _ (HSa.out _ hS2 _) (fun hHeld => ?_)
        clear hK K
        refine wpAnyH_ready (rs := [18]) (by kernel_rfl) (by simp) ?_
        refine AllReadyH.cons rfl (fun K hK => ?_) AllReadyH.nil
        refine step_append_at rfl (.tmp 64) (.tmp 72) 25 rfl B 4 i0 (.bool false) 1 1 Try.underlying25 hi0 hz0 hz1 hz2 rfl (by decide) (.slice ta nt tc) nt _ rfl own2 ⟨W2.heap.size, 0, none⟩ 1 1 [.bool wb] rfl rfl (one_cell hx9) ?_ ?_ ?_ ?_ ?_
        · intro u hu; simp at hu; subst hu; rfl
        · unfold maxLen; omega
        · omega
        · have := HZ.out W2 HT2.out; simp; omega
        intro v4 W4 hown4 hgrow4 hwhere4
        obtain ⟨hS4, hS5, d4, f4, hv4, hfin⟩ := HFin v4 W4 hown4 hgrow4 hwhere4
        obtain ⟨a4, n4, c4, rfl⟩ := hv4
        refine hK.out _ _ hS4 (fun hHeld => ?_)
        clear hK K hown4 hgrow4 hwhere4
        refine wpAnyH_take (i := 19) (v := ?_) rfl (by kernel_rfl) (by kernel_rfl) (by kernel_rfl) (fun _ _ _ h => h) (Or.inl ⟨by rfl, ?_⟩) (by assumption) ?_
        rotate_left
        · intro u hSu
          obtain ⟨q1, q2, q3⟩ := hSu
          go_simp
          with_reducible rfl
        simp only [Act.put, List.setIfInBounds_toArray, List.set_cons_zero, List.set_cons_succ, List.getElem_toArray, List.getElem_cons_zero, List.getElem_cons_succ]
        refine wpAnyH_ready (rs := [20]) (by kernel_rfl) (by simp) ?_
        refine AllReadyH.cons rfl (fun K hK => ?_) AllReadyH.nil
        go_simp
        refine hK.out _ _ hS5 (fun hHeld => ?_)
        clear hK K
        refine wpAnyH_done (by kernel_rfl) ?_ _
        refine NoPanic.normal ?_
        have HE : Hid (StepTo w B s S' tb bb tg (some ⟨b, o, none⟩) ln lc n (.slice ta nt tc) told' bad (W4.setCell ⟨tb, 0, none⟩ (.slice a4 n4 c4)) ∧ (W4.setCell ⟨tb, 0, none⟩ (.slice a4 n4 c4)).cell? ⟨dg, 0, none⟩ = some (.int .i64 d.tell)) := hfin
        have d5 := hfin.2
        clear hHeld hS4 hS5 hfin d4 f4 HFin hS2 d9 d9a hx9 own2 HT2
        generalize W4.setCell ⟨tb, 0, none⟩ (.slice a4 n4 c4) = W5 at HE d5 ⊢
        go_wp2_with fail
        refine Calls.mono (kitPick_at d.tell 7 W5 (by decide) (by decide)) ?_
        rintro r W6 ⟨rfl, hW6⟩
        subst W6
        go_wp2_with fail
        go_ret
        exact ⟨rfl, HE.out.1⟩
      · go_simp
        refine hK.out _ _ (HSa.out _ hS2 _) (fun hHeld => ?_)
        clear hK K
        refine wpAnyH_ready (rs := [9]) (by kernel_rfl) (by simp) ?_
        refine AllReadyH.cons rfl (fun K hK => ?_) AllReadyH.nil
        go_simp
        refine hK.out _ _ ((HSa.out _ hS2 _)) (fun hHeld => ?_)
        clear hK K
        refine wpAnyH_ready (rs := [18]) (by kernel_rfl) (by simp) ?_
        refine AllReadyH.cons rfl (fun K hK => ?_) AllReadyH.nil
        refine step_append_at rfl (.tmp 64) (.tmp 72) 25 rfl B 4 i0 (.bool false) 1 1 Try.underlying25 hi0 hz0 hz1 hz2 rfl (by decide) (.slice ta nt tc) nt _ rfl own2 ⟨W2.heap.size, 0, none⟩ 1 1 [.bool wb] rfl rfl (one_cell hx9) ?_ ?_ ?_ ?_ ?_
        · intro u hu; simp at hu; subst hu; rfl
        · unfold maxLen; omega
        · omega
        · have := HZ.out W2 HT2.out; simp; omega
        intro v4 W4 hown4 hgrow4 hwhere4
        obtain ⟨hS4, hS5, d4, f4, hv4, hfin⟩ := HFin v4 W4 hown4 hgrow4 hwhere4
        obtain ⟨a4, n4, c4, rfl⟩ := hv4
        refine hK.out _ _ hS4 (fun hHeld => ?_)
        clear hK K hown4 hgrow4 hwhere4
        refine wpAnyH_take (i := 19) (v := ?_) rfl (by kernel_rfl) (by kernel_rfl) (by kernel_rfl) (fun _ _ _ h => h) (Or.inl ⟨by rfl, ?_⟩) (by assumption) ?_
        rotate_left
        · intro u hSu
          obtain ⟨q1, q2, q3⟩ := hSu
          go_simp
          with_reducible rfl
        simp only [Act.put, List.setIfInBounds_toArray, List.set_cons_zero, List.set_cons_succ, List.getElem_toArray, List.getElem_cons_zero, List.getElem_cons_succ]
        refine wpAnyH_ready (rs := [20]) (by kernel_rfl) (by simp) ?_
        refine AllReadyH.cons rfl (fun K hK => ?_) AllReadyH.nil
        go_simp
        refine hK.out _ _ hS5 (fun hHeld => ?_)
        clear hK K
        refine wpAnyH_done (by kernel_rfl) ?_ _
        refine NoPanic.normal ?_
        have HE : Hid (StepTo w B s S' tb bb tg (some ⟨b, o, none⟩) ln lc n (.slice ta nt tc) told' bad (W4.setCell ⟨tb, 0, none⟩ (.slice a4 n4 c4)) ∧ (W4.setCell ⟨tb, 0, none⟩ (.slice a4 n4 c4)).cell? ⟨dg, 0, none⟩ = some (.int .i64 d.tell)) := hfin
        have d5 := hfin.2
        clear hHeld hS4 hS5 hfin d4 f4 HFin hS2 d9 d9a hx9 own2 HT2
        generalize W4.setCell ⟨tb, 0, none⟩ (.slice a4 n4 c4) = W5 at HE d5 ⊢
        go_wp2_with fail
        refine Calls.mono (kitPick_at d.tell 7 W5 (by decide) (by decide)) ?_
        rintro r W6 ⟨rfl, hW6⟩
        subst W6
        go_wp2_with fail
        go_ret
        exact ⟨rfl, HE.out.1⟩
  | true =>
    rw [hin] at e2
    go_wp2_with fail
    refine Calls.mono cP ?_
    rintro r Wx ⟨rfl, hWx⟩
    subst Wx
    clear cP
    go_wp2_with fail
    refine wp_region_noPanic ?_
    refine wp_region_held_drew (S := fun u => u.cell? ⟨tg, 3, none⟩ = some (.pointer (some ⟨tb, 0, none⟩)) ∧ u.cell? ⟨tg, 0, none⟩ = some (.pointer (some ⟨s, 0, none⟩)) ∧ u.cell? ⟨dg, 1, none⟩ = some (.int .i64 d.wake)) (by kernel_rfl) HS0.out (fun hHeld => ?_)
    refine wpAnyH_take (i := 0) (v := ?_) rfl (by kernel_rfl) (by kernel_rfl) (by kernel_rfl) (fun _ _ _ h => h) (Or.inl ⟨by rfl, ?_⟩) (by assumption) ?_
    rotate_left
    · intro u hSu
      obtain ⟨q1, q2, q3⟩ := hSu
      go_simp
      with_reducible rfl
    simp only [Act.put, List.setIfInBounds_toArray, List.set_cons_zero, List.set_cons_succ, List.getElem_toArray, List.getElem_cons_zero]
    refine wpAnyH_take (i := 1) (v := ?_) rfl (by kernel_rfl) (by kernel_rfl) (by kernel_rfl) (fun _ _ _ h => h) (Or.inl ⟨by rfl, ?_⟩) (by assumption) ?_
    rotate_left
    · intro u hSu
      obtain ⟨q1, q2, q3⟩ := hSu
      go_simp
      with_reducible rfl
    simp only [Act.put, List.setIfInBounds_toArray, List.set_cons_zero, List.set_cons_succ, List.getElem_toArray, List.getElem_cons_zero, List.getElem_cons_succ]
    refine wpAnyH_take (i := 2) (v := ?_) rfl (by kernel_rfl) (by kernel_rfl) (by kernel_rfl) (fun _ _ _ h => h) (Or.inl ⟨by rfl, ?_⟩) (by assumption) ?_
    rotate_left
    · intro u hSu
      obtain ⟨q1, q2, q3⟩ := hSu
      go_simp
      with_reducible rfl
    simp only [Act.put, List.setIfInBounds_toArray, List.set_cons_zero, List.set_cons_succ, List.getElem_toArray, List.getElem_cons_zero, List.getElem_cons_succ]
    refine wpAnyH_take (i := 3) (v := ?_) rfl (by kernel_rfl) (by kernel_rfl) (by kernel_rfl) (fun _ _ _ h => h) (Or.inl ⟨by rfl, ?_⟩) (by assumption) ?_
    rotate_left
    · intro u hSu
      obtain ⟨q1, q2, q3⟩ := hSu
      go_simp
      with_reducible rfl
    simp only [Act.put, List.setIfInBounds_toArray, List.set_cons_zero, List.set_cons_succ, List.getElem_toArray, List.getElem_cons_zero, List.getElem_cons_succ]
    refine wpAnyH_take (i := 4) (v := ?_) rfl (by kernel_rfl) (by kernel_rfl) (by kernel_rfl) (fun _ _ _ h => h) (Or.inl ⟨by rfl, ?_⟩) (by assumption) ?_
    rotate_left
    · intro u hSu
      obtain ⟨q1, q2, q3⟩ := hSu
      go_simp
      with_reducible rfl
    simp only [Act.put, List.setIfInBounds_toArray, List.set_cons_zero, List.set_cons_succ, List.getElem_toArray, List.getElem_cons_zero, List.getElem_cons_succ]
    refine wpAnyH_take (i := 5) (v := ?_) rfl (by kernel_rfl) (by kernel_rfl) (by kernel_rfl) (fun _ _ _ h => h) (Or.inl ⟨by rfl, ?_⟩) (by assumption) ?_
    rotate_left
    · intro u hSu
      obtain ⟨q1, q2, q3⟩ := hSu
      go_simp
      with_reducible rfl
    simp only [Act.put, List.setIfInBounds_toArray, List.set_cons_zero, List.set_cons_succ, List.getElem_toArray, List.getElem_cons_zero, List.getElem_cons_succ]
    refine wpAnyH_take (i := 6) (v := ?_) rfl (by kernel_rfl) (by kernel_rfl) (by kernel_rfl) (fun _ _ _ h => h) (Or.inl ⟨by rfl, ?_⟩) (by assumption) ?_
    rotate_left
    · intro u hSu
      obtain ⟨q1, q2, q3⟩ := hSu
      go_simp
      with_reducible rfl
    simp only [Act.put, List.setIfInBounds_toArray, List.set_cons_zero, List.set_cons_succ, List.getElem_toArray, List.getElem_cons_zero, List.getElem_cons_succ]
    refine wpAnyH_take (i := 7) (v := ?_) rfl (by kernel_rfl) (by kernel_rfl) (by kernel_rfl) (fun _ _ _ h => h) (Or.inl ⟨by rfl, ?_⟩) (by assumption) ?_
    rotate_left
    · intro u hSu
      obtain ⟨q1, q2, q3⟩ := hSu
      go_simp
      with_reducible rfl
    simp only [Act.put, List.setIfInBounds_toArray, List.set_cons_zero, List.set_cons_succ, List.getElem_toArray, List.getElem_cons_zero, List.getElem_cons_succ]
    refine wpAnyH_take (i := 8) (v := ?_) rfl (by kernel_rfl) (by kernel_rfl) (by kernel_rfl) (fun _ _ _ h => h) (Or.inl ⟨by rfl, ?_⟩) (by assumption) ?_
    rotate_left
    · intro u hSu
      obtain ⟨q1, q2, q3⟩ := hSu
      go_simp
      with_reducible rfl
    simp only [Act.put, List.setIfInBounds_toArray, List.set_cons_zero, List.set_cons_succ, List.getElem_toArray, List.getElem_cons_zero, List.getElem_cons_succ]
    refine wpAnyH_take (i := 10) (v := ?_) rfl (by kernel_rfl) (by kernel_rfl) (by kernel_rfl) (fun _ _ _ h => h) (Or.inl ⟨by rfl, ?_⟩) (by assumption) ?_
    rotate_left
    · intro u hSu
      obtain ⟨q1, q2, q3⟩ := hSu
      go_simp
      with_reducible rfl
    simp only [Act.put, List.setIfInBounds_toArray, List.set_cons_zero, List.set_cons_succ, List.getElem_toArray, List.getElem_cons_zero, List.getElem_cons_succ]
    refine wpAnyH_take (i := 11) (v := ?_) rfl (by kernel_rfl) (by kernel_rfl) (by kernel_rfl) (fun _ _ _ h => h) (Or.inl ⟨by rfl, ?_⟩) (by assumption) ?_
    rotate_left
    · intro u hSu
      obtain ⟨q1, q2, q3⟩ := hSu
      go_simp
      with_reducible rfl
    simp only [Act.put, List.setIfInBounds_toArray, List.set_cons_zero, List.set_cons_succ, List.getElem_toArray, List.getElem_cons_zero, List.getElem_cons_succ]
    refine wpAnyH_take (i := 12) (v := ?_) rfl (by kernel_rfl) (by kernel_rfl) (by kernel_rfl) (fun _ _ _ h => h) (Or.inl ⟨by rfl, ?_⟩) (by assumption) ?_
    rotate_left
    · intro u hSu
      obtain ⟨q1, q2, q3⟩ := hSu
      go_simp
      with_reducible rfl
    simp only [Act.put, List.setIfInBounds_toArray, List.set_cons_zero, List.set_cons_succ, List.getElem_toArray, List.getElem_cons_zero, List.getElem_cons_succ]
    refine wpAnyH_take (i := 13) (v := ?_) rfl (by kernel_rfl) (by kernel_rfl) (by kernel_rfl) (fun _ _ _ h => h) (Or.inl ⟨by rfl, ?_⟩) (by assumption) ?_
    rotate_left
    · intro u hSu
      obtain ⟨q1, q2, q3⟩ := hSu
      go_simp
      with_reducible rfl
    simp only [Act.put, List.setIfInBounds_toArray, List.set_cons_zero, List.set_cons_succ, List.getElem_toArray, List.getElem_cons_zero, List.getElem_cons_succ]
    refine wpAnyH_take (i := 14) (v := ?_) rfl (by kernel_rfl) (by kernel_rfl) (by kernel_rfl) (fun _ _ _ h => h) (Or.inl ⟨by rfl, ?_⟩) (by assumption) ?_
    rotate_left
    · intro u hSu
      obtain ⟨q1, q2, q3⟩ := hSu
      go_simp
      with_reducible rfl
    simp only [Act.put, List.setIfInBounds_toArray, List.set_cons_zero, List.set_cons_succ, List.getElem_toArray, List.getElem_cons_zero, List.getElem_cons_succ]
    refine wpAnyH_take (i := 15) (v := ?_) rfl (by kernel_rfl) (by kernel_rfl) (by kernel_rfl) (fun _ _ _ h => h) (Or.inl ⟨by rfl, ?_⟩) (by assumption) ?_
    rotate_left
    · intro u hSu
      obtain ⟨q1, q2, q3⟩ := hSu
      go_simp
      with_reducible rfl
    simp only [Act.put, List.setIfInBounds_toArray, List.set_cons_zero, List.set_cons_succ, List.getElem_toArray, List.getElem_cons_zero, List.getElem_cons_succ]
    have hS1 := HS0.out
    refine wpAnyH_ready (rs := [9, 16]) (by kernel_rfl) (by simp) ?_
    refine AllReadyH.cons rfl (fun K hK => ?_) (AllReadyH.cons rfl (fun K hK => ?_) AllReadyH.nil)
    · go_simp
      refine hK.out _ _ (hS1) (fun hHeld => ?_)
      clear hK K
      refine wpAnyH_ready (rs := [16]) (by kernel_rfl) (by simp) ?_
      refine AllReadyH.cons rfl (fun K hK => ?_) AllReadyH.nil
      go_simp
      refine Calls.mono cW ?_
      rintro r W2 ⟨rfl, T2⟩
      obtain ⟨hS2, d9, d9a, hx9, own2, HFin⟩ := HA.out W2 T2
      have HT2 : Hid (To W1.drew B s S' W2) := T2
      refine hK.out _ _ hS2 (fun hHeld => ?_)
      clear hK K T2 cW c9
      refine wpAnyH_ready (rs := [17]) (by kernel_rfl) (by simp) ?_
      refine AllReadyH.cons rfl (fun K hK => ?_) AllReadyH.nil
      go_simp
      refine hK.out _ _ (HSa.out _ hS2 _) (fun hHeld => ?_)
      clear hK K
      refine wpAnyH_ready (rs := [18]) (by kernel_rfl) (by simp) ?_
      refine AllReadyH.cons rfl (fun K hK => ?_) AllReadyH.nil
      refine step_append_at rfl (.tmp 64) (.tmp 72) 25 rfl B 4 i0 (.bool false) 1 1 Try.underlying25 hi0 hz0 hz1 hz2 rfl (by decide) (.slice ta nt tc) nt _ rfl own2 ⟨W2.heap.size, 0, none⟩ 1 1 [.bool wb] rfl rfl (one_cell hx9) ?_ ?_ ?_ ?_ ?_
      · intro u hu; simp at hu; subst hu; rfl
      · unfold maxLen; omega
      · omega
      · have := HZ.out W2 HT2.out; simp; omega
      intro v4 W4 hown4 hgrow4 hwhere4
      obtain ⟨hS4, hS5, d4, f4, hv4, hfin⟩ := HFin v4 W4 hown4 hgrow4 hwhere4
      obtain ⟨a4, n4, c4, rfl⟩ := hv4
      refine hK.out _ _ hS4 (fun hHeld => ?_)
      clear hK K hown4 hgrow4 hwhere4
      refine wpAnyH_take (i := 19) (v := ?_) rfl (by kernel_rfl) (by kernel_rfl) (by kernel_rfl) (fun _ _ _ h => h) (Or.inl ⟨by rfl, ?_⟩) (by assumption) ?_
      rotate_left
      · intro u hSu
        obtain ⟨q1, q2, q3⟩ := hSu
        go_simp
        with_reducible rfl
      simp only [Act.put, List.setIfInBounds_toArray, List.set_cons_zero, List.set_cons_succ, List.getElem_toArray, List.getElem_cons_zero, List.getElem_cons_succ]
      refine wpAnyH_ready (rs := [20]) (by kernel_rfl) (by simp) ?_
      refine AllReadyH.cons rfl (fun K hK => ?_) AllReadyH.nil
      go_simp
      refine hK.out _ _ hS5 (fun hHeld => ?_)
      clear hK K
      refine wpAnyH_done (by kernel_rfl) ?_ _
      refine NoPanic.normal ?_
      have HE : Hid (StepTo w B s S' tb bb tg (some ⟨b, o, none⟩) ln lc n (.slice ta nt tc) told' bad (W4.setCell ⟨tb, 0, none⟩ (.slice a4 n4 c4)) ∧ (W4.setCell ⟨tb, 0, none⟩ (.slice a4 n4 c4)).cell? ⟨dg, 0, none⟩ = some (.int .i64 d.tell)) := hfin
      have d5 := hfin.2
      clear hHeld hS4 hS5 hfin d4 f4 HFin hS2 d9 d9a hx9 own2 HT2
      generalize W4.setCell ⟨tb, 0, none⟩ (.slice a4 n4 c4) = W5 at HE d5 ⊢
      go_wp2_with fail
      refine Calls.mono (kitPick_at d.tell 7 W5 (by decide) (by decide)) ?_
      rintro r W6 ⟨rfl, hW6⟩
      subst W6
      go_wp2_with fail
      go_ret
      exact ⟨rfl, HE.out.1⟩
    · go_simp
      refine Calls.mono cW ?_
      rintro r W2 ⟨rfl, T2⟩
      obtain ⟨hS2, d9, d9a, hx9, own2, HFin⟩ := HA.out W2 T2
      have HT2 : Hid (To W1.drew B s S' W2) := T2
      refine hK.out _ _ hS2 (fun hHeld => ?_)
      clear hK K T2 cW c9
      refine wpAnyH_ready (rs := [9, 17]) (by kernel_rfl) (by simp) ?_
      refine AllReadyH.cons rfl (fun K hK => ?_) (AllReadyH.cons rfl (fun K hK => ?_) AllReadyH.nil)
      · go_simp
        refine hK.out _ _ (hS2) (fun hHeld => ?_)
        clear hK K
        refine wpAnyH_ready (rs := [17]) (by kernel_rfl) (by simp) ?_
        refine AllReadyH.cons rfl (fun K hK => ?_) AllReadyH.nil
        go_simp
        refine hK.out _ _ (HSa.out _ hS2 _) (fun hHeld => ?_)
        clear hK K
        refine wpAnyH_ready (rs := [18]) (by kernel_rfl) (by simp) ?_
        refine AllReadyH.cons rfl (fun K hK => ?_) AllReadyH.nil
        refine step_append_at rfl (.tmp 64) (.tmp 72) 25 rfl B 4 i0 (.bool false) 1 1 Try.underlying25 hi0 hz0 hz1 hz2 rfl (by decide) (.slice ta nt tc) nt _ rfl own2 ⟨W2.heap.size, 0, none⟩ 1 1 [.bool wb] rfl rfl (one_cell hx9) ?_ ?_ ?_ ?_ ?_
        · intro u hu; simp at hu; subst hu; rfl
        · unfold maxLen; omega
        · omega
        · have := HZ.out W2 HT2.out; simp; omega
        intro v4 W4 hown4 hgrow4 hwhere4
        obtain ⟨hS4, hS5, d4, f4, hv4, hfin⟩ := HFin v4 W4 hown4 hgrow4 hwhere4
        obtain ⟨a4, n4, c4, rfl⟩ := hv4
        refine hK.out _ _ hS4 (fun hHeld => ?_)
        clear hK K hown4 hgrow4 hwhere4
        refine wpAnyH_take (i := 19) (v := ?_) rfl (by kernel_rfl) (by kernel_rfl) (by kernel_rfl) (fun _ _ _ h => h) (Or.inl ⟨by rfl, ?_⟩) (by assumption) ?_
        rotate_left
        · intro u hSu
          obtain ⟨q1, q2, q3⟩ := hSu
          go_simp
          with_reducible rfl
        simp only [Act.put, List.setIfInBounds_toArray, List.set_cons_zero, List.set_cons_succ, List.getElem_toArray, List.getElem_cons_zero, List.getElem_cons_succ]
        refine wpAnyH_ready (rs := [20]) (by kernel_rfl) (by simp) ?_
        refine AllReadyH.cons rfl (fun K hK => ?_) AllReadyH.nil
        go_simp
        refine hK.out _ _ hS5 (fun hHeld => ?_)
        clear hK K
        refine wpAnyH_done (by kernel_rfl) ?_ _
        refine NoPanic.normal ?_
        have HE : Hid (StepTo w B s S' tb bb tg (some ⟨b, o, none⟩) ln lc n (.slice ta nt tc) told' bad (W4.setCell ⟨tb, 0, none⟩ (.slice a4 n4 c4)) ∧ (W4.setCell ⟨tb, 0, none⟩ (.slice a4 n4 c4)).cell? ⟨dg, 0, none⟩ = some (.int .i64 d.tell)) := hfin
        have d5 := hfin.2
        clear hHeld hS4 hS5 hfin d4 f4 HFin hS2 d9 d9a hx9 own2 HT2
        generalize W4.setCell ⟨tb, 0, none⟩ (.slice a4 n4 c4) = W5 at HE d5 ⊢
        go_wp2_with fail
        refine Calls.mono (kitPick_at d.tell 7 W5 (by decide) (by decide)) ?_
        rintro r W6 ⟨rfl, hW6⟩
        subst W6
        go_wp2_with fail
        go_ret
        exact ⟨rfl, HE.out.1⟩
      · go_simp
        refine hK.out _ _ (HSa.out _ hS2 _) (fun hHeld => ?_)
        clear hK K
        refine wpAnyH_ready (rs := [9]) (by kernel_rfl) (by simp) ?_
        refine AllReadyH.cons rfl (fun K hK => ?_) AllReadyH.nil
        go_simp
        refine hK.out _ _ ((HSa.out _ hS2 _)) (fun hHeld => ?_)
        clear hK K
        refine wpAnyH_ready (rs := [18]) (by kernel_rfl) (by simp) ?_
        refine AllReadyH.cons rfl (fun K hK => ?_) AllReadyH.nil
        refine step_append_at rfl (.tmp 64) (.tmp 72) 25 rfl B 4 i0 (.bool false) 1 1 Try.underlying25 hi0 hz0 hz1 hz2 rfl (by decide) (.slice ta nt tc) nt _ rfl own2 ⟨W2.heap.size, 0, none⟩ 1 1 [.bool wb] rfl rfl (one_cell hx9) ?_ ?_ ?_ ?_ ?_
        · intro u hu; simp at hu; subst hu; rfl
        · unfold maxLen; omega
        · omega
        · have := HZ.out W2 HT2.out; simp; omega
        intro v4 W4 hown4 hgrow4 hwhere4
        obtain ⟨hS4, hS5, d4, f4, hv4, hfin⟩ := HFin v4 W4 hown4 hgrow4 hwhere4
        obtain ⟨a4, n4, c4, rfl⟩ := hv4
        refine hK.out _ _ hS4 (fun hHeld => ?_)
        clear hK K hown4 hgrow4 hwhere4
        refine wpAnyH_take (i := 19) (v := ?_) rfl (by kernel_rfl) (by kernel_rfl) (by kernel_rfl) (fun _ _ _ h => h) (Or.inl ⟨by rfl, ?_⟩) (by assumption) ?_
        rotate_left
        · intro u hSu
          obtain ⟨q1, q2, q3⟩ := hSu
          go_simp
          with_reducible rfl
        simp only [Act.put, List.setIfInBounds_toArray, List.set_cons_zero, List.set_cons_succ, List.getElem_toArray, List.getElem_cons_zero, List.getElem_cons_succ]
        refine wpAnyH_ready (rs := [20]) (by kernel_rfl) (by simp) ?_
        refine AllReadyH.cons rfl (fun K hK => ?_) AllReadyH.nil
        go_simp
        refine hK.out _ _ hS5 (fun hHeld => ?_)
        clear hK K
        refine wpAnyH_done (by kernel_rfl) ?_ _
        refine NoPanic.normal ?_
        have HE : Hid (StepTo w B s S' tb bb tg (some ⟨b, o, none⟩) ln lc n (.slice ta nt tc) told' bad (W4.setCell ⟨tb, 0, none⟩ (.slice a4 n4 c4)) ∧ (W4.setCell ⟨tb, 0, none⟩ (.slice a4 n4 c4)).cell? ⟨dg, 0, none⟩ = some (.int .i64 d.tell)) := hfin
        have d5 := hfin.2
        clear hHeld hS4 hS5 hfin d4 f4 HFin hS2 d9 d9a hx9 own2 HT2
        generalize W4.setCell ⟨tb, 0, none⟩ (.slice a4 n4 c4) = W5 at HE d5 ⊢
        go_wp2_with fail
        refine Calls.mono (kitPick_at d.tell 7 W5 (by decide) (by decide)) ?_
        rintro r W6 ⟨rfl, hW6⟩
        subst W6
        go_wp2_with fail
        go_ret
        exact ⟨rfl, HE.out.1⟩
end Go.Proofs.Ytjhhncbadkpbaaa
