/-
  WaitWakes, plainly: cells that are read, cells that are published. WaitWakes: what stands side by side; publishing. Whole numbers, as they come in.
-/
import Derived.Test.YtafiopjgegmfoaaGreatWAwk
import Derived.ProofKit
import Derived.OpenShut
import Derived.Deep.Slices
import Derived.Deep.Grids
import Derived.ChangeOld
import Derived.Below
namespace Go.Proofs.YtafiopjgegmfoaaGreat.W
open Go.RowKit Go.Maps Go.Proofs.YtafiopjgegmfoaaGreat Go.Proofs.YtafiopjgegmfoaaGreat.C Go.Proofs.YtafiopjgegmfoaaGreat.T
def rd1 (R : List (Int × Int)) (c : Int) : List (Int × Int) := if (gt R c).isSome then R else R ++ [(c, 0)]
/-- what has been read, beside the map that tells it -/
structure Rg (R : List (Int × Int)) (L : List (Int × Bool)) (k : Nat) : Prop where
  ks : kys L = kys R
  zr : ∀ c x, gt R c = some x → x = 0
  tr : ∀ c x, gt L c = some x → x = true
  six : ∀ c ∈ kys R, 0 ≤ c ∧ c < 6
  le : R.length ≤ k
theorem Rg.nil : Rg [] [] 0 := ⟨rfl, (fun c x h => by cases h), (fun c x h => by cases h), (fun c h => by cases h), Nat.le_refl _⟩
theorem Rg.isL {R : List (Int × Int)} {L : List (Int × Bool)} {k : Nat} (h : Rg R L k) (c : Int) : (gt L c).isSome = (gt R c).isSome := by
  rw [Bool.eq_iff_iff, ← gt_some_iff, ← gt_some_iff, h.ks]
theorem Rg.look {R : List (Int × Int)} {L : List (Int × Bool)} {k : Nat} (h : Rg R L k) (c : Int) : (gt L c).getD false = (gt R c).isSome := by
  rw [← h.isL]
  cases hg : gt L c with
  | none => rfl
  | some x => rw [h.tr c x hg]; rfl
theorem Rg.next {R : List (Int × Int)} {L : List (Int × Bool)} {k : Nat} (h : Rg R L k) (c : Int) (hc : 0 ≤ c ∧ c < 6) : Rg (rd1 R c) (pt L c true) (k + 1) := by
  have e := h.isL c
  have hk := kys_pt L c true
  refine ⟨?_, fun d x hd => ?_, fun d x hd => ?_, fun d hd => ?_, ?_⟩
  · rw [hk, e]
    unfold rd1
    split
    · exact h.ks
    · rw [h.ks]
      unfold kys
      rw [List.map_append]
      rfl
  · unfold rd1 at hd
    split at hd
    · exact h.zr d x hd
    · rename_i hn
      rw [gt_append R c d 0 (by simpa using hn)] at hd
      split at hd
      · injection hd with hd; exact hd.symm
      · exact h.zr d x hd
  · rw [gt_pt] at hd
    split at hd
    · injection hd with hd; exact hd.symm
    · exact h.tr d x hd
  · unfold rd1 at hd
    split at hd
    · exact h.six d hd
    · unfold kys at hd
      rw [List.map_append, List.mem_append] at hd
      rcases hd with hd | hd
      · exact h.six d hd
      · simp at hd
        subst hd
        exact hc
  · unfold rd1
    split
    · have := h.le; omega
    · rw [List.length_append]; have := h.le; simp; omega
theorem cell6 (c : Int) (hc : 0 ≤ c ∧ c < 6) : (C.M0 6).cell? c = some ⟨.int .i64 0, 0, 0⟩ := by
  unfold M.cell? C.M0
  rw [if_pos hc.1]
  simp only [List.getElem?_replicate]
  rw [if_pos (by omega)]
theorem aX_read (R : List (Int × Int)) (c : Int) (hc : 0 ≤ c ∧ c < 6) (hz : ∀ c x, gt R c = some x → x = 0) (hl : R.length ≤ 20) : (aX R).read (C.M0 6) c = (0, 0, C.M0 6, aX (rd1 R c)) := by
  have hs : (aX R).S.read c 0 = (0, ⟨rd1 R c, [], []⟩) := by
    unfold SS.read rd1
    rw [if_neg (by omega)]
    show (match gt R c with | some x => _ | none => _) = _
    cases hg : gt R c with
    | none =>
      show (if 256 ≤ R.length then _ else _) = _
      rw [if_neg (by omega), if_neg (by simp)]
      rfl
    | some x =>
      obtain rfl := hz c x hg
      show (if (0 : Int) = 0 then _ else _) = _
      rw [if_pos rfl, if_pos (by simp)]
      rfl
  have hb : ¬ (aX R).bad c ⟨.int .i64 0, 0, 0⟩ := by
    unfold TX.bad TX.oth
    cases hg : gt (aX R).S.R c with
    | none => simp [aX]
    | some x =>
      obtain rfl := hz c x hg
      simp [aX]
  unfold TX.read
  rw [if_neg (by simp [aX])]
  rw [show gt (aX R).S.W c = none from rfl]
  dsimp only
  rw [cell6 c hc]
  dsimp only
  rw [if_neg hb, hs, if_neg (by simp)]
  rfl
/-! ### cells that are published -/
/-- all cells are free, none is newer than the clock -/
structure Pb (S : M) (n : Nat) : Prop where
  six : S.C.length = 6
  k : S.k = (n : Int)
  fr : ∀ c ∈ S.C, c.own = 0 ∧ 0 ≤ c.ver ∧ c.ver ≤ S.k
theorem Pb.new : Pb (C.M0 6) 0 := ⟨by simp [C.M0], rfl, fun c hc => by
  unfold C.M0 at hc
  rw [List.eq_of_mem_replicate hc]
  exact ⟨rfl, Int.le_refl _, Int.le_refl _⟩⟩
def pub1 (S : M) (c i : Int) : M := ⟨S.C.set c.toNat ⟨.int .i64 i, S.k + 1, 0⟩, S.k + 1⟩
theorem Pb.cell {S : M} {n : Nat} (h : Pb S n) (c : Int) (hc : 0 ≤ c ∧ c < 6) : ∃ q, S.cell? c = some q ∧ q.own = 0 ∧ 0 ≤ q.ver ∧ q.ver ≤ S.k := by
  have hl : c.toNat < S.C.length := by rw [h.six]; omega
  refine ⟨S.C[c.toNat], by unfold M.cell?; rw [if_pos hc.1]; exact List.getElem?_eq_getElem hl, h.fr _ (List.getElem_mem hl)⟩
theorem Pb.adv {S : M} {n : Nat} (h : Pb S n) (hn : n ≤ 100) : S.adv = (⟨S.C, S.k + 1⟩, S.k + 1, 0) := by
  unfold M.adv
  rw [if_neg (by rw [h.k]; omega)]
theorem Pb.lock {S : M} {n : Nat} (h : Pb S n) (c : Int) (hc : 0 ≤ c ∧ c < 6) : ∃ q, S.cell? c = some q ∧ (⟨S.C, S.k + 1⟩ : M).lock c 9 = (⟨S.C.set c.toNat { q with own := 9 }, S.k + 1⟩, 0) := by
  obtain ⟨q, hq, h1, _⟩ := h.cell c hc
  refine ⟨q, hq, ?_⟩
  unfold M.lock
  rw [show (⟨S.C, S.k + 1⟩ : M).cell? c = some q from hq]
  dsimp only
  rw [if_neg (by omega), if_neg (by omega)]
  rfl
theorem Pb.publish {S : M} {n : Nat} (h : Pb S n) (c i : Int) (hc : 0 ≤ c ∧ c < 6) {q : Cl} (hq : S.cell? c = some q) : (⟨S.C.set c.toNat { q with own := 9 }, S.k + 1⟩ : M).publish c 9 (.int .i64 i) (S.k + 1) = (pub1 S c i, 0) := by
  obtain ⟨q', hq', h1, h2, h3⟩ := h.cell c hc
  rw [hq] at hq'
  injection hq' with hq'
  subst hq'
  have hl : c.toNat < S.C.length := by rw [h.six]; omega
  have e : (⟨S.C.set c.toNat { q with own := 9 }, S.k + 1⟩ : M).cell? c = some { q with own := 9 } := by
    unfold M.cell?
    rw [if_pos hc.1]
    show (S.C.set c.toNat { q with own := 9 })[c.toNat]? = _
    rw [List.getElem?_set, if_pos rfl, if_pos hl]
  unfold M.publish
  rw [e]
  dsimp only
  rw [if_neg (by omega), if_neg (by simp), if_neg (by omega)]
  unfold M.put pub1
  dsimp only
  rw [List.set_set]
theorem Pb.next {S : M} {n : Nat} (h : Pb S n) (c i : Int) : Pb (pub1 S c i) (n + 1) := by
  refine ⟨by simp [pub1, h.six], by simp [pub1, h.k], fun q hq => ?_⟩
  unfold pub1 at hq ⊢
  have hk := h.k
  rcases List.mem_or_eq_of_mem_set hq with hq | rfl
  · obtain ⟨a, b, d⟩ := h.fr q hq
    exact ⟨a, b, by show q.ver ≤ S.k + 1; omega⟩
  · exact ⟨rfl, by show 0 ≤ S.k + 1; omega, Int.le_refl _⟩
/-- one of the cells that were read has been published -/
def hitB (S : M) (R : List (Int × Int)) : Bool := (kys R).any fun c => other S (c, 0)
theorem hitB_new (R : List (Int × Int)) (hR : ∀ c ∈ kys R, 0 ≤ c ∧ c < 6) : hitB (C.M0 6) R = false := by
  unfold hitB
  rw [List.any_eq_false]
  intro c hc
  unfold other
  rw [cell6 c (hR c hc)]
  simp
theorem hitB_next {S : M} {n : Nat} (h : Pb S n) (R : List (Int × Int)) (c i : Int) (hc : 0 ≤ c ∧ c < 6) (hR : ∀ c ∈ kys R, 0 ≤ c ∧ c < 6) : hitB (pub1 S c i) R = (hitB S R || (gt R c).isSome) := by
  have hl : c.toNat < S.C.length := by rw [h.six]; omega
  have e1 : other (pub1 S c i) (c, 0) = true := by
    unfold other M.cell? pub1
    rw [if_pos hc.1]
    show (match (S.C.set c.toNat ⟨.int .i64 i, S.k + 1, 0⟩)[c.toNat]? with | some q => !(q.ver == 0) | none => false) = true
    rw [List.getElem?_set, if_pos rfl, if_pos hl]
    have := h.k
    simp
    omega
  have e2 : ∀ d, d ≠ c → 0 ≤ d → other (pub1 S c i) (d, 0) = other S (d, 0) := fun d hd h0 => by
    unfold other M.cell? pub1
    show (match (if 0 ≤ d then (S.C.set c.toNat ⟨.int .i64 i, S.k + 1, 0⟩)[d.toNat]? else none) with | some q => !(q.ver == 0) | none => false) = _
    rw [if_pos h0, List.getElem?_set, if_neg (by omega), if_pos h0]
    rfl
  cases hg : (gt R c).isSome with
  | true =>
    rw [Bool.or_true]
    unfold hitB
    exact List.any_eq_true.2 ⟨c, (gt_some_iff R c).2 hg, e1⟩
  | false =>
    rw [Bool.or_false]
    unfold hitB
    have hno : c ∉ kys R := fun hm => by rw [gt_some_iff, hg] at hm; cases hm
    rw [Bool.eq_iff_iff, List.any_eq_true, List.any_eq_true]
    constructor
    · rintro ⟨d, h1, h2⟩
      exact ⟨d, h1, by rw [← e2 d (fun e => hno (e ▸ h1)) (hR d h1).1]; exact h2⟩
    · rintro ⟨d, h1, h2⟩
      exact ⟨d, h1, by rw [e2 d (fun e => hno (e ▸ h1)) (hR d h1).1]; exact h2⟩
theorem goOn_hit (S : M) (R : List (Int × Int)) (hz : ∀ c x, gt R c = some x → x = 0) : goOn S (rdOf (aX R)) = hitB S R := by
  have e : ∀ c, rdp (aX R) c = (c, 0) := fun c => by
    unfold rdp
    show (c, (gt R c).getD 0) = (c, 0)
    cases hg : gt R c with
    | none => rfl
    | some x => rw [hz c x hg]; rfl
  unfold goOn hitB rdOf
  rw [List.any_map, Bool.eq_iff_iff, List.any_eq_true, List.any_eq_true]
  constructor
  · rintro ⟨d, h1, h2⟩
    exact ⟨d, (srt_mem _ _).1 h1, by have := h2; simp only [Function.comp, e] at this; exact this⟩
  · rintro ⟨d, h1, h2⟩
    exact ⟨d, (srt_mem _ _).2 h1, by simp only [Function.comp, e]; exact h2⟩
theorem changed_one (S : M) (v : Value) (rd : Rds) : changed S [(3, (v, rd))] = if goOn S rd then [3] else [] := by
  unfold changed gath
  have e : (kys [((3 : Int), (v, rd))]).filter (sel (goOn S) [(3, (v, rd))]) = if goOn S rd then [3] else [] := by
    show ([3] : List Int).filter _ = _
    have : sel (goOn S) [((3 : Int), (v, rd))] 3 = goOn S rd := rfl
    rw [List.filter_cons, this]
    rfl
  rw [e]
  split
  · exact srt_one 3
  · exact srt_nil
theorem stays_one (S : M) (v : Value) (rd : Rds) : stays S [(3, (v, rd))] = if goOn S rd then [] else [(3, (v, rd))] := by
  unfold stays
  rw [List.filter_cons]
  cases goOn S rd <;> rfl
end Go.Proofs.YtafiopjgegmfoaaGreat.W
namespace Go.Proofs.YtafiopjgegmfoaaGreat.W
open Go.RowKit Go.Maps Go.Proofs.YtafiopjgegmfoaaGreat Go.Proofs.YtafiopjgegmfoaaGreat.C Go.Proofs.YtafiopjgegmfoaaGreat.T
theorem mapL_get {enc : Bool → Value} {w : World} {b : Nat} {L : List (Int × Bool)} (h : MapL enc w b L) (t e : TypeId) (z : Bool) (hu : Tryz.prog.underlying t = some (.map 3 e)) (hz : ∀ w : World, (zeroValue e).run Tryz.prog w = .ok (enc z) w) (k : Int) (hk : (Lit.int .i64 k).wf = true) :
    (Instr.lookup t (.map (some b)) (.int .i64 k) false).run Tryz.prog w = .ok (enc ((gt L k).getD z)) w := by
  obtain ⟨D, h1, h2, h3⟩ := h.mp
  obtain ⟨v, ps, r, e⟩ := h1.lookup keyed3 hu (hz w) (show rV _ = some (.held _, []) from rfl) (key3 hk)
  rw [(h3 k hk).2] at e
  change rV v = some ((Option.map DataW.held ((gt L k).map enc)).getD (.held (enc z)), ps) at e
  rw [r]
  cases hm : gt L k with
  | none =>
    rw [hm] at e
    simp [rV] at e
    rw [e.1]
    rfl
  | some x =>
    rw [hm] at e
    simp [rV] at e
    rw [e.1]
    rfl
/-- The numbers zs lie where the address says; of no numbers nothing is asked. -/
def RdI (w : World) (a : Option Addr) (zs : List Int) : Prop :=
  0 < zs.length → ∃ b o, a = some ⟨b, o, none⟩ ∧ ∀ j (h : j < zs.length), w.cell? ⟨b, o + j, none⟩ = some (.int .i64 zs[j])
theorem RdI.below {B : Nat} {w w' : World} {a : Option Addr} {zs : List Int} (h : RdI w a zs) (hb : Below B w w') (hB : w.heap.size ≤ B) : RdI w' a zs := fun hp => by
  obtain ⟨b, o, e, hc⟩ := h hp
  refine ⟨b, o, e, fun j hj => ?_⟩
  have hlt : b < w.heap.size := block_lt_of_cell (hc j hj)
  rw [hb.cell (p := ⟨b, o + j, none⟩) (Nat.lt_of_lt_of_le hlt hB)]
  exact hc j hj
def Wk (w0 u : World) (m gm : Nat) (S : M) (l : List (Nat × TX)) (wb : Nat) (P : Wts) (K : Own) (im : Nat) (L : List (Int × Bool)) : Prop := ∃ G H, HwF w0 u m gm S l wb P K G H ∧ MapL Value.bool u im L ∧ ¬ G im ∧ ¬ H im ∧ w0.heap.size ≤ im
section
variable {w0 u u' : World} {m gm g wb j k im n : Nat} {S S' : M} {l l' : List (Nat × TX)} {x x' : TX} {G V H : Nat → Prop} {P P' : Wts} {v e : Int} {K K' : Own} {L L' : List (Int × Bool)} {R : List (Int × Int)}
theorem Wk.tx' (h : HwF w0 u m gm S l wb P K G H) (hm : MapL Value.bool u im L ∧ ¬ G im ∧ ¬ H im ∧ w0.heap.size ≤ im) (t : ToG w0 u m gm S' l' G (fun _ => False) u') : Wk w0 u' m gm S' l' wb P K im L :=
  ⟨_, _, h.tx t, hm.1.stay (t.upd.2 _ hm.1.lt (fun hn => hn.elim hm.2.1 (fun hf => hf))), fun hg => hg.elim hm.2.1 (fun hg => by have := hm.1.lt; omega), hm.2.2⟩
theorem Wk.wt' (h : HwF w0 u m gm S l wb P K G H) (hm : MapL Value.bool u im L ∧ ¬ G im ∧ ¬ H im ∧ w0.heap.size ≤ im) (t : ToW u w0.heap.size wb m P' H u') : Wk w0 u' m gm S l wb P' K im L :=
  ⟨G, grow H u u', ⟨h.hg.stay (h.hg.bel.trans t.bel) t.upd.1 (fun y hy => t.upd.2 y (h.hg.lt hy) (fun hh => h.ap y hh hy)), t.is, fun y hy hg => hy.elim (fun hh => h.ap y hh hg) (fun hh => by have := h.hg.lt hg; omega), fun b hb => by
    obtain ⟨b1, b2, b3, b4⟩ := h.ow b hb
    exact ⟨(t.upd.2 _ b1.lt b3).trans b1, b2, fun hg => hg.elim b3 (fun hg => by have := b1.lt; omega), b4⟩⟩, hm.1.stay (t.upd.2 _ hm.1.lt hm.2.2.1), hm.2.1, fun hg => hg.elim hm.2.2.1 (fun hg => by have := hm.1.lt; omega), hm.2.2.2⟩
theorem Wk.below (h : Wk w0 u m gm S l wb P K im L) (hb : Below u.heap.size u u') : Wk w0 u' m gm S l wb P K im L := by
  obtain ⟨G, H, h, m1, m2, m3, m4⟩ := h
  exact ⟨G, H, ⟨h.hg.below hb, h.wt.below hb, h.ap, fun b hk => ⟨(h.ow b hk).1.below hb (h.ow b hk).1.lt, (h.ow b hk).2⟩⟩, m1.stay (hb.block _ m1.lt), m2, m3, m4⟩
theorem Wk.bel (h : Wk w0 u m gm S l wb P K im L) : Below w0.heap.size w0 u := by
  obtain ⟨G, H, h, _⟩ := h
  exact h.hg.bel
theorem Wk.hB (h : Wk w0 u m gm S l wb P K im L) : w0.heap.size ≤ u.heap.size := h.bel.size
theorem Wk.own (h : Wk w0 u m gm S l wb P K im L) {b : Nat} {cs : Array Value} {t : TypeId} (hk : (b, cs, t) ∈ K) : Box u b cs t := by
  obtain ⟨G, H, h, _⟩ := h
  exact (h.ow _ hk).1
theorem Wk.hw (h : Wk w0 u m gm S l wb P K im L) : Hw w0 u m gm S l wb P K := by
  obtain ⟨G, H, h, _⟩ := h
  exact ⟨G, H, h⟩
theorem Wk.box (h : Wk w0 u m gm S l wb P K im L) (cs : Array Value) (t : TypeId) : Wk w0 (u.alloc (.cells cs t)) m gm S l wb P ((u.heap.size, cs, t) :: K) im L := by
  have hb : Below u.heap.size u (u.alloc (.cells cs t)) := (Below.refl _ _).alloc (Nat.le_refl _) _
  obtain ⟨G, H, h, m1, m2, m3, m4⟩ := h
  refine ⟨G, H, ⟨h.hg.below hb, h.wt.below hb, h.ap, fun b hk => ?_⟩, m1.stay (hb.block _ m1.lt), m2, m3, m4⟩
  rcases List.mem_cons.1 hk with rfl | hk
  · exact ⟨Box.new u cs t, fun hg => by have := h.hg.lt hg; omega, fun hg => by have := (h.wt.lo _ hg).2; omega, h.hg.mm.hB⟩
  · exact ⟨(h.ow b hk).1.below hb (h.ow b hk).1.lt, (h.ow b hk).2⟩
/-- a map is made -/
theorem Hw.map (h : Hw w0 u m gm S l wb P K) : Wk w0 (u.alloc (.map #[] 0)) m gm S l wb P K u.heap.size [] := by
  have hb : Below u.heap.size u (u.alloc (.map #[] 0)) := (Below.refl _ _).alloc (Nat.le_refl _) _
  obtain ⟨G, H, h⟩ := h
  exact ⟨G, H, ⟨h.hg.below hb, h.wt.below hb, h.ap, fun b hk => ⟨(h.ow b hk).1.below hb (h.ow b hk).1.lt, (h.ow b hk).2⟩⟩, MapL.made u, fun hg => by have := h.hg.lt hg; omega, fun hg => by have := (h.wt.lo _ hg).2; omega, h.hg.mm.hB⟩
/-- it has one pair more -/
theorem Wk.upd (h : Wk w0 u m gm S l wb P K im L) (c : Int) (hc : 0 ≤ c ∧ c < 1024) (hl : L.length < 256) : ∃ w', (Instr.mapUpdate 45 (.map (some im)) (.int .i64 c) (.bool true)).run Tryz.prog u = .ok () w' ∧ Wk w0 w' m gm S l wb P K im (pt L c true) := by
  obtain ⟨G, H, h, m1, m2, m3, m4⟩ := h
  obtain ⟨w', hr, hm, hg⟩ := m1.update 45 4 Tryz.underlying45 c hc true (.inr hl)
  have st : ∀ y, y < u.heap.size → y ≠ im → w'.heap[y]? = u.heap[y]? := fun y hl hy => hg.block y hl (fun e => hy (by injection e))
  refine ⟨w', hr, G, H, ⟨h.hg.stay (h.hg.bel.grown hg h.hg.mm.hB (fun k e => by cases e; exact m4)) hg.size (fun y hy => st y (h.hg.lt hy) (fun e => m2 (e ▸ hy))), h.wt.stay hg.size (fun y hy => st y (h.wt.lo y hy).2 (fun e => m3 (e ▸ hy))), h.ap, fun b hb => ?_⟩, hm, m2, m3, m4⟩
  obtain ⟨b1, b2⟩ := h.ow b hb
  exact ⟨(st _ b1.lt (fun e => m1.noBox b1 e.symm)).trans b1, b2⟩
/-- one's own first block is written -/
theorem Wk.put {b : Nat} {cs : Array Value} {t : TypeId} (h : Wk w0 u m gm S l wb P ((b, cs, t) :: K) im L) (hK : ∀ q ∈ K, q.2.2 ≠ t) (i : Nat) (y : Value) : Wk w0 (u.setCell ⟨b, i, none⟩ y) m gm S l wb P ((b, cs.setIfInBounds i y, t) :: K) im L := by
  obtain ⟨G, H, h, m1, m2, m3, m4⟩ := h
  obtain ⟨b1, b2, b3, b4⟩ := h.ow _ (List.mem_cons_self ..)
  have st : ∀ y', y' ≠ b → (u.setCell ⟨b, i, none⟩ y).heap[y']? = u.heap[y']? := fun y' hy => heap_setCell_other u _ y' y (show y' ≠ b from hy)
  refine ⟨G, H, ⟨h.hg.store b2 b4 i y, h.wt.stay (by simp) (fun y' hy => st y' (fun e => b3 (e ▸ hy))), h.ap, fun q hq => ?_⟩, m1.stay (st _ (m1.noBox b1)), m2, m3, m4⟩
  rcases List.mem_cons.1 hq with rfl | hq
  · exact ⟨b1.store i y, b2, b3, b4⟩
  · obtain ⟨q1, q2⟩ := h.ow q (List.mem_cons_of_mem _ hq)
    exact ⟨(st _ (q1.ne b1 (hK q hq))).trans q1, q2⟩
theorem Wk.look (h : Wk w0 u m gm S l wb P K im L) (c : Int) (hc : (Lit.int .i64 c).wf = true) : (Instr.lookup 45 (.map (some im)) (.int .i64 c) false).run Tryz.prog u = .ok (.bool ((gt L c).getD false)) u := by
  obtain ⟨G, H, h, m1, _⟩ := h
  exact mapL_get m1 45 4 false Tryz.underlying45 Tryz.zeroValue4 c hc
theorem Wk.read (h : Wk w0 u m gm S l wb P K im L) (hj : l[j]? = some (g, x)) (i : Int) (hi : (Lit.int .i64 i).wf = true) (he : x.read S i = (v, e, S', x')) : Calls Tryz.prog 18 #[ptr g, .int .i64 i] u fun r u' => r = .returned (.tuple #[.int .i64 v, .int .i64 e]) ∧ Wk w0 u' m gm S' (l.set j (g, x')) wb P K im L := by
  obtain ⟨G, H, h, hm⟩ := h
  exact (h.hg.read hj i hi he).mono fun r u' ⟨a, t⟩ => ⟨a, Wk.tx' h hm t⟩
theorem Wk.adv (h : Wk w0 u m gm S l wb P K im L) (he : S.adv = (S', v, e)) : Calls Tryz.prog 20 #[ptr m] u fun r u' => r = .returned (.tuple #[.int .i64 v, .int .i64 e]) ∧ Wk w0 u' m gm S' l wb P K im L := by
  obtain ⟨G, H, h, hm⟩ := h
  have c := adv_at h.hg.mm.is
  have hN := h.hg.num.adv
  rw [he] at c hN
  exact c.mono fun r u' ⟨a, t⟩ => ⟨a, Wk.tx' h hm (hg_mem h.hg t hN)⟩
theorem Wk.lock (h : Wk w0 u m gm S l wb P K im L) (i o : Int) (he : S.lock i o = (S', e)) : Calls Tryz.prog 21 #[ptr m, .int .i64 i, .int .i64 o] u fun r u' => r = .returned (.int .i64 e) ∧ Wk w0 u' m gm S' l wb P K im L := by
  obtain ⟨G, H, h, hm⟩ := h
  have c := lock_at h.hg.mm.is i o
  have hN := h.hg.num.lock i o
  rw [he] at c hN
  exact c.mono fun r u' ⟨a, t⟩ => ⟨a, Wk.tx' h hm (hg_mem h.hg t hN)⟩
theorem Wk.publish (h : Wk w0 u m gm S l wb P K im L) (i o y k : Int) (he : S.publish i o (.int .i64 y) k = (S', e)) : Calls Tryz.prog 22 #[ptr m, .int .i64 i, .int .i64 o, .int .i64 y, .int .i64 k] u fun r u' => r = .returned (.int .i64 e) ∧ Wk w0 u' m gm S' l wb P K im L := by
  obtain ⟨G, H, h, hm⟩ := h
  have c := publish_at h.hg.mm.is i o y k (fun c hc => h.hg.num i c hc)
  have hN := h.hg.num.publish i o y k
  rw [he] at c hN
  exact c.mono fun r u' ⟨a, t⟩ => ⟨a, Wk.tx' h hm (hg_mem h.hg t hN)⟩
theorem Wk.park (h : Wk w0 u m gm S l wb P K im L) (hj : l[j]? = some (g, x)) (id : Int) (h1 : 1 ≤ id) (hk : (Lit.int .i64 id).wf = true) (hn : gt P id = none) (hl : P.length < 64) : Calls Tryz.prog 11 #[ptr wb, .int .i64 id, ptr g] u fun r u' => r = .returned (.int .i64 0) ∧ ∃ v, Wk w0 u' m gm S l wb (P ++ [(id, (v, rdOf x))]) K im L := by
  obtain ⟨G, H, h, hm⟩ := h
  obtain ⟨F, hx⟩ := hg_isX h.hg hj
  exact (park_ok h.wt hx h1 hk hn hl).mono fun r u' ⟨a, v, t⟩ => ⟨a, v, Wk.wt' h hm t⟩
theorem pick_at (n m : Int) (w : World) (h1 : 1 ≤ m) (h2 : m ≤ 1000) : Calls Tryz.prog 17 #[.int .i64 n, .int .i64 m] w fun r w' => r = .returned (.int .i64 (n % m)) ∧ w' = w := by
  have e1 : n.tmod m = if 0 ≤ n ∨ n % m = 0 then n % m else n % m - m := by
    by_cases h : 0 ≤ n
    · rw [if_pos (.inl h), Int.tmod_eq_emod_of_nonneg h]
    · have := Int.tmod_eq_emod (a := n) (b := m)
      rw [this]
      have hd : m ∣ n ↔ n % m = 0 := Int.dvd_iff_emod_eq_zero
      by_cases h0 : n % m = 0
      · rw [if_pos (.inr (hd.2 h0)), if_pos (.inr h0)]; omega
      · rw [if_neg (by rintro (h' | h'); exact h h'; exact h0 (hd.1 h')), if_neg (by rintro (h' | h'); exact h h'; exact h0 h')]
        omega
  have hz0 : 0 ≤ n % m := Int.emod_nonneg _ (by omega)
  have hz1 : n % m < m := Int.emod_lt_of_pos _ (by omega)
  have hnz : ¬ (m = 0) := by omega
  have hm1 : ¬ (m < 1) := by omega
  generalize hz : n % m = z at *
  generalize hy : n.tmod m = y at *
  by_cases hc : 0 ≤ n ∨ z = 0
  · rw [if_pos hc] at e1
    subst e1
    have hyl : ¬ y < 0 := by omega
    go_enter Tryz.func17, Tryz.ntmps17
    go_wp2
    go_ret
    simp
  · rw [if_neg hc] at e1
    have hyl : y < 0 := by omega
    have hs : y + m = z := by omega
    have hs2 : y = z - m := e1
    clear e1 hc
    subst hs2
    go_enter Tryz.func17, Tryz.ntmps17
    go_wp2
    go_ret
    simp
end
end Go.Proofs.YtafiopjgegmfoaaGreat.W
namespace Go.Proofs.YtafiopjgegmfoaaGreat.W
open Go.ChangeShapes Go.WideShapes Go.ChangeAt Go.RowKit Go.Deep
section
variable {H : Type} {enc : TypeId × Value → H} {w : World} {base : Nat} {held : Bool} {spare : Nat → Bool}
theorem open_introw {fuel : Nat} {cs : List Value} {x : DataW H × List MemPlace} (h : DataW.trod enc Tryz.prog w base (fun _ => true) held fuel 42 cs = some x) :
    ∃ (a : Option Addr) (n cap : Nat) (zs : List Int), cs = [.slice a n cap] ∧ zs.length = n ∧ RdI w a zs ∧ n ≤ 9223372036854775807 := by
  rcases open_ints Tryz.underlying42 Tryz.underlying3 (by kernel_rfl) h with ⟨rfl, _⟩ | ⟨⟨b, o, sp⟩, l, c, zs, rfl, _, hl, hm, hz, _, hcell, hwz⟩
  · exact ⟨none, 0, 0, [], rfl, rfl, fun h => by simp at h, by omega⟩
  · simp only [if_true] at hz
    refine ⟨_, l, c, zs.take l, rfl, by simp; omega, fun hp => ?_, by unfold maxLen at hm; omega⟩
    have h0 := hcell 0 (by simp at hp; omega)
    have hsp : sp = none := by simpa [Addr.add] using World.cell?_spot h0
    subst hsp
    refine ⟨b, o, rfl, fun j hj => ?_⟩
    have hj' : j < zs.length := by simp at hj; omega
    have h := hcell j hj'
    rw [Addr.add_lit] at h
    rw [h]
    simp [List.getD, List.getElem?_eq_getElem hj']
end
end Go.Proofs.YtafiopjgegmfoaaGreat.W
