/-
  sort.Search. place and find.
-/
import Derived.Test.YtlbjalodjcajfaaGreatRgt
namespace Go.Proofs.YtlbjalodjcajfaaGreat
open Go.RowKit Go.Maps
set_option maxRecDepth 100000 in
set_option maxHeartbeats 4000000 in
theorem search_at {w : World} (n : Nat) (caps : Array Value) (pr : Nat → Bool) (hn : n ≤ 1024) (hin : ∀ args w, (callFunc 45 args).run Tryz.prog w = .ok (.enter 45 args) w)
    (hf : ∀ i, i < n → ∀ u, Below w.heap.size w u → Calls Tryz.prog 45 (#[.int .i64 (i : Int)] ++ caps) u fun r u' => r = .returned (.bool (pr i)) ∧ Below u.heap.size u u')
    (q : Nat) (hq : q ≤ n) (h0 : ∀ i, i < q → pr i = false) (h1 : ∀ i, q ≤ i → i < n → pr i = true) :
    Calls Tryz.prog 44 #[.int .i64 (n : Int), .func (.func 45) #[] caps] w fun r w' => r = .returned (.int .i64 (q : Int)) ∧ Below w.heap.size w w' := by
  have HF := hid hf
  have HP := hid (And.intro h0 h1)
  clear hf h0 h1
  go_enter Tryz.func44, Tryz.ntmps44
  go_wp2_with fail
  go_loopw [5, 6] (fun x y u => ∃ i j : Nat, i ≤ q ∧ q ≤ j ∧ j ≤ n ∧ x = .int .i64 (i : Int) ∧ y = .int .i64 (j : Int) ∧ Hid (Below w.heap.size w u)) (fun x y _ => (iof y - iof x).toNat)
  case atStart => exact ⟨0, n, by omega, hq, Nat.le_refl _, by simp, by simp, Below.refl _ _⟩
  case round =>
    obtain ⟨i, j, hi, hj, hjn, rfl, rfl, hrel⟩ := hrel
    by_cases hlt : i < j
    · have hki : (i : Int) < (j : Int) := by omega
      go_upto_region 4 with fail
      have hh : ((i : Int) + (j : Int)) / 2 = (((i + j) / 2 : Nat) : Int) := by omega
      rw [hh]
      obtain ⟨h, hh2⟩ : ∃ h, h = (i + j) / 2 := ⟨_, rfl⟩
      have hb1 : i ≤ h := by omega
      have hb2 : h < j := by omega
      rw [← hh2]
      have cf := HF.out h (by omega) wr hrel.out
      clear hh hh2
      go_wp2_with fail
      refine cf.mono ?_
      rintro e w1 ⟨rfl, hb⟩
      have HB : Hid (Below w.heap.size w w1) := hrel.out.trans (hb.mono hrel.out.size)
      clear cf hb hrel
      cases hp : pr h with
      | false =>
        have hq2 : h < q := by
          apply Classical.byContradiction
          intro hn'
          have := HP.out.2 h (by omega) (by omega)
          rw [hp] at this
          cases this
        clear hp
        go_wp2_with fail
        go_roundw
        case rel => exact ⟨h + 1, j, by omega, hj, hjn, by simp, by simp, HB.out⟩
        case measure => simp only [iof]; omega
      | true =>
        have hq2 : q ≤ h := by
          apply Classical.byContradiction
          intro hn'
          have := HP.out.1 h (by omega)
          rw [hp] at this
          cases this
        clear hp
        go_wp2_with fail
        go_roundw
        case rel => exact ⟨i, h, hi, hq2, by omega, by simp, by simp, HB.out⟩
        case measure => simp only [iof]; omega
    · have hki : ¬ (i : Int) < (j : Int) := by omega
      obtain rfl : i = q := by omega
      go_wp2_with fail
      go_ret
      exact ⟨rfl, hrel.out⟩
end Go.Proofs.YtlbjalodjcajfaaGreat
namespace Go.Proofs.YtlbjalodjcajfaaGreat
open Go.RowKit Go.Maps
/-! ### plainly -/
def pos (l : List En) (P : ByteArray → Bool) : Nat := (l.takeWhile (fun e => e.u && !P e.k)).length
theorem tw_lt {α : Type} {f : α → Bool} : ∀ {l : List α} {i : Nat} {e : α}, i < (l.takeWhile f).length → l[i]? = some e → f e = true
  | [], i, e, h, _ => by simp at h
  | x :: l, i, e, h, he => by
    cases hx : f x with
    | false => rw [List.takeWhile_cons_of_neg (by rw [hx]; simp)] at h; simp at h
    | true =>
      rw [List.takeWhile_cons_of_pos hx] at h
      cases i with
      | zero => simp at he; rw [← he]; exact hx
      | succ i => exact tw_lt (by simpa using h) (by simpa using he)
theorem tw_at {α : Type} {f : α → Bool} : ∀ {l : List α} {e : α}, l[(l.takeWhile f).length]? = some e → f e = false
  | [], e, h => by simp at h
  | x :: l, e, h => by
    cases hx : f x with
    | false => rw [List.takeWhile_cons_of_neg (by rw [hx]; simp)] at h; simp at h; rw [← h]; exact hx
    | true => rw [List.takeWhile_cons_of_pos hx] at h; exact tw_at (by simpa using h)
theorem tw_le {α : Type} (f : α → Bool) (l : List α) : (l.takeWhile f).length ≤ l.length := (List.takeWhile_prefix f).length_le
/-- what holds no more at a place holds at none behind it -/
def Mono (l : List En) (P : ByteArray → Bool) : Prop := ∀ (i j : Nat) (ei ej : En), l[i]? = some ei → l[j]? = some ej → i ≤ j → (ei.u && !P ei.k) = false → (ej.u && !P ej.k) = false
theorem rgt_step {l : List En} (h : Rgt l = true) {i : Nat} {a b : En} (ha : l[i]? = some a) (hb : l[i + 1]? = some b) : (b.u = true → a.u = true ∧ blt a.k b.k = true) ∧ (b.u = false → b = E0) := by
  have hi := (List.getElem?_eq_some_iff.1 hb).1
  have := rgt_iff.1 h (i + 1) hi
  unfold okAt at this
  rw [hb] at this
  simp only [ha] at this
  constructor
  · intro hu
    rw [hu, if_pos rfl] at this
    simpa using this
  · intro hu
    rw [hu, if_neg (by simp)] at this
    simpa using this
theorem rgt_mono {l : List En} (h : Rgt l = true) {P : ByteArray → Bool} (hP : ∀ a b, blt a b = true → P a = true → P b = true) : Mono l P := by
  intro i j ei ej hi hj hij hf
  obtain ⟨d, rfl⟩ : ∃ d, j = i + d := ⟨j - i, by omega⟩
  clear hij
  induction d generalizing ej with
  | zero => rw [Nat.add_zero, hi] at hj; injection hj with hj; rw [← hj]; exact hf
  | succ d ih =>
    have hlt := (List.getElem?_eq_some_iff.1 hj).1
    have hm := List.getElem?_eq_getElem (l := l) (i := i + d) (by omega)
    have hf2 := ih _ hm
    obtain ⟨s1, _⟩ := rgt_step h hm hj
    cases hu : ej.u with
    | false => rfl
    | true =>
      obtain ⟨u1, b1⟩ := s1 hu
      rw [u1] at hf2
      simp only [Bool.true_and, Bool.not_eq_false'] at hf2 ⊢
      exact hP _ _ b1 hf2
/-! ### what is asked of a key -/
def pNone : ByteArray → Bool := fun _ => false
def pAbove (key : ByteArray) : ByteArray → Bool := fun k => blt key k
def pFrom (key : ByteArray) : ByteArray → Bool := fun k => !blt k key
theorem gtr_blt (a b : ByteArray) : (!(Op.bytesLess a.toList b.toList || a.toList == b.toList)) = blt b a := by
  cases h : blt b a with
  | true =>
    have h1 : Op.bytesLess a.toList b.toList = false := blt_asymm h
    have h2 : (a.toList == b.toList) = false := by
      rw [toList_beq]
      apply decide_eq_false
      intro e
      rw [e, blt_irrefl] at h
      cases h
    rw [h1, h2]; rfl
  | false =>
    cases h1 : Op.bytesLess a.toList b.toList with
    | true => rfl
    | false =>
      have := blt_tri (a := a) (b := b) h1 h
      rw [this]; simp
section
variable {u : World}
theorem c36 (k : ByteArray) : Calls Tryz.prog 27 #[.string k] u fun r w' => r = .returned (.bool (pNone k)) ∧ w' = u := by
  go_enter Tryz.func27, Tryz.ntmps27
  go_wp2
  go_ret
  exact ⟨rfl, rfl⟩
theorem c37 {kb : Nat} {key : ByteArray} (h : Box u kb #[.string key] 9) (k : ByteArray) : Calls Tryz.prog 65 #[.string k, ptr kb] u fun r w' => r = .returned (.bool (pAbove key k)) ∧ w' = u := by
  have c0 : u.cell? ⟨kb, 0, none⟩ = some (.string key) := h.cell 0
  have e := gtr_blt k key
  unfold ptr pAbove
  rw [← e]
  clear h e
  go_enter Tryz.func65, Tryz.ntmps65
  go_wp2
  go_ret
  simp
theorem c51 {kb : Nat} {key : ByteArray} (h : Box u kb #[.string key] 9) (k : ByteArray) : Calls Tryz.prog 40 #[.string k, ptr kb] u fun r w' => r = .returned (.bool (pFrom key k)) ∧ w' = u := by
  have c0 : u.cell? ⟨kb, 0, none⟩ = some (.string key) := h.cell 0
  unfold ptr pFrom blt
  clear h
  go_enter Tryz.func40, Tryz.ntmps40
  go_wp2
  go_ret
  simp

set_option maxRecDepth 100000 in
set_option maxHeartbeats 4000000 in
theorem at36 {lb fb : Nat} {a : Option Addr} {l : List En} {n c : Nat}  (hl : RdE u a l) (hn : l.length = n) (bl : Box u lb #[.slice a n c] 42) (bf : Box u fb #[.func (.func 27) #[] #[]] 73) {i : Nat} {e : En} (hi : l[i]? = some e) :
    Calls Tryz.prog 45 #[.int .i64 (i : Int), ptr lb, ptr fb] u fun r w' => r = .returned (.bool (!(e.u && !pNone e.k))) ∧ Below u.heap.size u w' := by
  obtain ⟨b, o, rfl, hb, d0, d1, d2⟩ := hl i e hi
  have hlt : i < n := by rw [← hn]; exact (List.getElem?_eq_some_iff.1 hi).1
  have hki : (i : Int) < (n : Int) := by omega
  have e0 : u.cell? ⟨lb, 0, none⟩ = some (.slice (some ⟨b, o, none⟩) n c) := bl.cell 0
  have e1 : u.cell? ⟨fb, 0, none⟩ = some (.func (.func 27) #[] #[]) := bf.cell 0
  have cf : ∀ q, Calls Tryz.prog 27 (#[.string e.k] ++ #[]) (u.drewN q) fun r w' => r = .returned (.bool (pNone e.k)) ∧ w' = u.drewN q := fun q => c36 _
  obtain ⟨eu, ek, ev⟩ := e
  simp only at d0 d1 d2 cf ⊢
  generalize pNone ek = z at *
  clear hl hi bl bf hn
  unfold ptr at *
  cases eu with
  | false =>
    go_enter Tryz.func45, Tryz.ntmps45
    go_wp2_with fail
    go_quiet (fail)
    go_wp2_with fail
    go_ret
    exact ⟨by simp, ⟨rfl, rfl, rfl, Nat.le_refl _, fun _ _ => rfl⟩⟩
  | true =>
    go_enter Tryz.func45, Tryz.ntmps45
    go_wp2_with fail
    go_quiet ((go_at_call 27; exact Calls.quiet_of_same (cf _)))
    go_wp2_with fail
    go_ret
    exact ⟨by simp, ⟨rfl, rfl, rfl, Nat.le_refl _, fun _ _ => rfl⟩⟩

set_option maxRecDepth 100000 in
set_option maxHeartbeats 4000000 in
theorem at37 {lb fb : Nat} {a : Option Addr} {l : List En} {n c : Nat} {kb : Nat} {key : ByteArray} (hk : Box u kb #[.string key] 9) (hl : RdE u a l) (hn : l.length = n) (bl : Box u lb #[.slice a n c] 42) (bf : Box u fb #[.func (.func 65) #[] #[ptr kb]] 73) {i : Nat} {e : En} (hi : l[i]? = some e) :
    Calls Tryz.prog 45 #[.int .i64 (i : Int), ptr lb, ptr fb] u fun r w' => r = .returned (.bool (!(e.u && !pAbove key e.k))) ∧ Below u.heap.size u w' := by
  obtain ⟨b, o, rfl, hb, d0, d1, d2⟩ := hl i e hi
  have hlt : i < n := by rw [← hn]; exact (List.getElem?_eq_some_iff.1 hi).1
  have hki : (i : Int) < (n : Int) := by omega
  have e0 : u.cell? ⟨lb, 0, none⟩ = some (.slice (some ⟨b, o, none⟩) n c) := bl.cell 0
  have e1 : u.cell? ⟨fb, 0, none⟩ = some (.func (.func 65) #[] #[ptr kb]) := bf.cell 0
  have cf : ∀ q, Calls Tryz.prog 65 (#[.string e.k] ++ #[ptr kb]) (u.drewN q) fun r w' => r = .returned (.bool (pAbove key e.k)) ∧ w' = u.drewN q := fun q => c37 (hk.drew q) _
  obtain ⟨eu, ek, ev⟩ := e
  simp only at d0 d1 d2 cf ⊢
  generalize pAbove key ek = z at *
  clear hl hi bl bf hn
  unfold ptr at *
  cases eu with
  | false =>
    go_enter Tryz.func45, Tryz.ntmps45
    go_wp2_with fail
    go_quiet (fail)
    go_wp2_with fail
    go_ret
    exact ⟨by simp, ⟨rfl, rfl, rfl, Nat.le_refl _, fun _ _ => rfl⟩⟩
  | true =>
    go_enter Tryz.func45, Tryz.ntmps45
    go_wp2_with fail
    go_quiet ((go_at_call 65; exact Calls.quiet_of_same (cf _)))
    go_wp2_with fail
    go_ret
    exact ⟨by simp, ⟨rfl, rfl, rfl, Nat.le_refl _, fun _ _ => rfl⟩⟩

set_option maxRecDepth 100000 in
set_option maxHeartbeats 4000000 in
theorem at51 {lb fb : Nat} {a : Option Addr} {l : List En} {n c : Nat} {kb : Nat} {key : ByteArray} (hk : Box u kb #[.string key] 9) (hl : RdE u a l) (hn : l.length = n) (bl : Box u lb #[.slice a n c] 42) (bf : Box u fb #[.func (.func 40) #[] #[ptr kb]] 73) {i : Nat} {e : En} (hi : l[i]? = some e) :
    Calls Tryz.prog 45 #[.int .i64 (i : Int), ptr lb, ptr fb] u fun r w' => r = .returned (.bool (!(e.u && !pFrom key e.k))) ∧ Below u.heap.size u w' := by
  obtain ⟨b, o, rfl, hb, d0, d1, d2⟩ := hl i e hi
  have hlt : i < n := by rw [← hn]; exact (List.getElem?_eq_some_iff.1 hi).1
  have hki : (i : Int) < (n : Int) := by omega
  have e0 : u.cell? ⟨lb, 0, none⟩ = some (.slice (some ⟨b, o, none⟩) n c) := bl.cell 0
  have e1 : u.cell? ⟨fb, 0, none⟩ = some (.func (.func 40) #[] #[ptr kb]) := bf.cell 0
  have cf : ∀ q, Calls Tryz.prog 40 (#[.string e.k] ++ #[ptr kb]) (u.drewN q) fun r w' => r = .returned (.bool (pFrom key e.k)) ∧ w' = u.drewN q := fun q => c51 (hk.drew q) _
  obtain ⟨eu, ek, ev⟩ := e
  simp only at d0 d1 d2 cf ⊢
  generalize pFrom key ek = z at *
  clear hl hi bl bf hn
  unfold ptr at *
  cases eu with
  | false =>
    go_enter Tryz.func45, Tryz.ntmps45
    go_wp2_with fail
    go_quiet (fail)
    go_wp2_with fail
    go_ret
    exact ⟨by simp, ⟨rfl, rfl, rfl, Nat.le_refl _, fun _ _ => rfl⟩⟩
  | true =>
    go_enter Tryz.func45, Tryz.ntmps45
    go_wp2_with fail
    go_quiet ((go_at_call 40; exact Calls.quiet_of_same (cf _)))
    go_wp2_with fail
    go_ret
    exact ⟨by simp, ⟨rfl, rfl, rfl, Nat.le_refl _, fun _ _ => rfl⟩⟩

set_option maxRecDepth 100000 in
set_option maxHeartbeats 4000000 in
theorem place36 {a : Option Addr} {l : List En} {n c : Nat}  (hl : RdE u a l) (hn : l.length = n) (h2 : n ≤ 1024) (hm : Mono l (pNone)) :
    Calls Tryz.prog 26 #[.slice a n c, .func (.func 27) #[] #[]] u fun r w' => r = .returned (.int .i64 (pos l (pNone) : Int)) ∧ Below u.heap.size u w' := by
  obtain ⟨u1, hu1⟩ : ∃ u1, u1 = (u.alloc (.cells #[.slice a n c] 42)).alloc (.cells #[.func (.func 27) #[] #[]] 73) := ⟨_, rfl⟩
  have bb : Below u.heap.size u u1 := by rw [hu1]; exact ((Below.refl _ _).alloc (Nat.le_refl _) _).alloc (by simp) _
  have b1 : Box u1 u.heap.size #[.slice a n c] 42 := by rw [hu1]; exact (Box.new u _ _).alloc _
  have b2 : Box u1 (u.heap.size + 1) #[.func (.func 27) #[] #[]] 73 := by
    have := Box.new (u.alloc (.cells #[.slice a n c] 42)) #[.func (.func 27) #[] #[]] 73
    rw [hu1]; simpa using this
  have hpl := tw_le (fun e : En => e.u && !(pNone) e.k) l
  have cs := search_at (w := u1) n #[ptr u.heap.size, ptr (u.heap.size + 1)] (fun i => !(((l[i]?.map (fun e => e.u && !(pNone) e.k))).getD false)) h2 (fun _ _ => rfl)
    (fun i hi v hv => by
      have hil : i < l.length := by omega
      have hx := List.getElem?_eq_getElem hil
      simp only [hx, Option.map_some, Option.getD_some]
      exact at36  ((hl.below bb).below hv) hn (b1.below hv b1.lt) (b2.below hv b2.lt) hx)
    (pos l (pNone)) (by unfold pos; omega)
    (fun i hi => by
      have hil : i < l.length := by unfold pos at hi; omega
      have hx := List.getElem?_eq_getElem hil
      simp only [hx, Option.map_some, Option.getD_some]
      have := tw_lt hi hx
      simpa using this)
    (fun i hq hi => by
      have hil : i < l.length := by omega
      have hx := List.getElem?_eq_getElem hil
      have hq2 : pos l (pNone) < l.length := by omega
      have hy := List.getElem?_eq_getElem hq2
      simp only [hx, Option.map_some, Option.getD_some]
      have := hm _ _ _ _ hy hx hq (tw_at (f := fun e : En => e.u && !(pNone) e.k) hy)
      rw [this]; rfl)
  have c0 : u1.cell? ⟨u.heap.size, 0, none⟩ = some (.slice a n c) := b1.cell 0
  clear b1 b2 hl hm hpl
  generalize pos l (pNone) = q at *
  have HB := hid bb
  clear bb
  unfold ptr at *
  go_enter Tryz.func26, Tryz.ntmps26
  go_upto_region 1 with fail
  rw [← hu1]
  clear hu1
  go_wp2_with fail
  refine cs.mono ?_
  rintro e w1 ⟨rfl, hb⟩
  have HB2 := hid (HB.out.trans (hb.mono HB.out.size))
  clear cs hb
  go_wp2_with fail
  go_ret
  exact ⟨rfl, HB2.out⟩

set_option maxRecDepth 100000 in
set_option maxHeartbeats 4000000 in
theorem place37 {a : Option Addr} {l : List En} {n c : Nat} {kb : Nat} {key : ByteArray} (hk : Box u kb #[.string key] 9) (hl : RdE u a l) (hn : l.length = n) (h2 : n ≤ 1024) (hm : Mono l (pAbove key)) :
    Calls Tryz.prog 26 #[.slice a n c, .func (.func 65) #[] #[ptr kb]] u fun r w' => r = .returned (.int .i64 (pos l (pAbove key) : Int)) ∧ Below u.heap.size u w' := by
  obtain ⟨u1, hu1⟩ : ∃ u1, u1 = (u.alloc (.cells #[.slice a n c] 42)).alloc (.cells #[.func (.func 65) #[] #[ptr kb]] 73) := ⟨_, rfl⟩
  have bb : Below u.heap.size u u1 := by rw [hu1]; exact ((Below.refl _ _).alloc (Nat.le_refl _) _).alloc (by simp) _
  have b1 : Box u1 u.heap.size #[.slice a n c] 42 := by rw [hu1]; exact (Box.new u _ _).alloc _
  have b2 : Box u1 (u.heap.size + 1) #[.func (.func 65) #[] #[ptr kb]] 73 := by
    have := Box.new (u.alloc (.cells #[.slice a n c] 42)) #[.func (.func 65) #[] #[ptr kb]] 73
    rw [hu1]; simpa using this
  have hpl := tw_le (fun e : En => e.u && !(pAbove key) e.k) l
  have cs := search_at (w := u1) n #[ptr u.heap.size, ptr (u.heap.size + 1)] (fun i => !(((l[i]?.map (fun e => e.u && !(pAbove key) e.k))).getD false)) h2 (fun _ _ => rfl)
    (fun i hi v hv => by
      have hil : i < l.length := by omega
      have hx := List.getElem?_eq_getElem hil
      simp only [hx, Option.map_some, Option.getD_some]
      exact at37 ((hk.below bb hk.lt).below hv (hk.below bb hk.lt).lt) ((hl.below bb).below hv) hn (b1.below hv b1.lt) (b2.below hv b2.lt) hx)
    (pos l (pAbove key)) (by unfold pos; omega)
    (fun i hi => by
      have hil : i < l.length := by unfold pos at hi; omega
      have hx := List.getElem?_eq_getElem hil
      simp only [hx, Option.map_some, Option.getD_some]
      have := tw_lt hi hx
      simpa using this)
    (fun i hq hi => by
      have hil : i < l.length := by omega
      have hx := List.getElem?_eq_getElem hil
      have hq2 : pos l (pAbove key) < l.length := by omega
      have hy := List.getElem?_eq_getElem hq2
      simp only [hx, Option.map_some, Option.getD_some]
      have := hm _ _ _ _ hy hx hq (tw_at (f := fun e : En => e.u && !(pAbove key) e.k) hy)
      rw [this]; rfl)
  have c0 : u1.cell? ⟨u.heap.size, 0, none⟩ = some (.slice a n c) := b1.cell 0
  clear b1 b2 hl hm hpl
  generalize pos l (pAbove key) = q at *
  have HB := hid bb
  clear bb
  unfold ptr at *
  go_enter Tryz.func26, Tryz.ntmps26
  go_upto_region 1 with fail
  rw [← hu1]
  clear hu1
  go_wp2_with fail
  refine cs.mono ?_
  rintro e w1 ⟨rfl, hb⟩
  have HB2 := hid (HB.out.trans (hb.mono HB.out.size))
  clear cs hb
  go_wp2_with fail
  go_ret
  exact ⟨rfl, HB2.out⟩

set_option maxRecDepth 100000 in
set_option maxHeartbeats 4000000 in
theorem place51 {a : Option Addr} {l : List En} {n c : Nat} {kb : Nat} {key : ByteArray} (hk : Box u kb #[.string key] 9) (hl : RdE u a l) (hn : l.length = n) (h2 : n ≤ 1024) (hm : Mono l (pFrom key)) :
    Calls Tryz.prog 26 #[.slice a n c, .func (.func 40) #[] #[ptr kb]] u fun r w' => r = .returned (.int .i64 (pos l (pFrom key) : Int)) ∧ Below u.heap.size u w' := by
  obtain ⟨u1, hu1⟩ : ∃ u1, u1 = (u.alloc (.cells #[.slice a n c] 42)).alloc (.cells #[.func (.func 40) #[] #[ptr kb]] 73) := ⟨_, rfl⟩
  have bb : Below u.heap.size u u1 := by rw [hu1]; exact ((Below.refl _ _).alloc (Nat.le_refl _) _).alloc (by simp) _
  have b1 : Box u1 u.heap.size #[.slice a n c] 42 := by rw [hu1]; exact (Box.new u _ _).alloc _
  have b2 : Box u1 (u.heap.size + 1) #[.func (.func 40) #[] #[ptr kb]] 73 := by
    have := Box.new (u.alloc (.cells #[.slice a n c] 42)) #[.func (.func 40) #[] #[ptr kb]] 73
    rw [hu1]; simpa using this
  have hpl := tw_le (fun e : En => e.u && !(pFrom key) e.k) l
  have cs := search_at (w := u1) n #[ptr u.heap.size, ptr (u.heap.size + 1)] (fun i => !(((l[i]?.map (fun e => e.u && !(pFrom key) e.k))).getD false)) h2 (fun _ _ => rfl)
    (fun i hi v hv => by
      have hil : i < l.length := by omega
      have hx := List.getElem?_eq_getElem hil
      simp only [hx, Option.map_some, Option.getD_some]
      exact at51 ((hk.below bb hk.lt).below hv (hk.below bb hk.lt).lt) ((hl.below bb).below hv) hn (b1.below hv b1.lt) (b2.below hv b2.lt) hx)
    (pos l (pFrom key)) (by unfold pos; omega)
    (fun i hi => by
      have hil : i < l.length := by unfold pos at hi; omega
      have hx := List.getElem?_eq_getElem hil
      simp only [hx, Option.map_some, Option.getD_some]
      have := tw_lt hi hx
      simpa using this)
    (fun i hq hi => by
      have hil : i < l.length := by omega
      have hx := List.getElem?_eq_getElem hil
      have hq2 : pos l (pFrom key) < l.length := by omega
      have hy := List.getElem?_eq_getElem hq2
      simp only [hx, Option.map_some, Option.getD_some]
      have := hm _ _ _ _ hy hx hq (tw_at (f := fun e : En => e.u && !(pFrom key) e.k) hy)
      rw [this]; rfl)
  have c0 : u1.cell? ⟨u.heap.size, 0, none⟩ = some (.slice a n c) := b1.cell 0
  clear b1 b2 hl hm hpl
  generalize pos l (pFrom key) = q at *
  have HB := hid bb
  clear bb
  unfold ptr at *
  go_enter Tryz.func26, Tryz.ntmps26
  go_upto_region 1 with fail
  rw [← hu1]
  clear hu1
  go_wp2_with fail
  refine cs.mono ?_
  rintro e w1 ⟨rfl, hb⟩
  have HB2 := hid (HB.out.trans (hb.mono HB.out.size))
  clear cs hb
  go_wp2_with fail
  go_ret
  exact ⟨rfl, HB2.out⟩
end
end Go.Proofs.YtlbjalodjcajfaaGreat
