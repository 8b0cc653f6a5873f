/-
  Transactions, plainly: which phase one is in, what it owns; what stays true of several over one memory. A publish never errs. A step of a transaction's end: what it does to all of them. The cells as of a version: V b i. What is settled stays so: Fix. Begin, Read, Write, Abort and the first Step beside what stays true of all. The histories of the transactions, plainly: what each of them read belongs to its beginning, and to the moment ahead of its version. The histories beside the calls that publish nothing. The histories: Write, Begin, and the steps. The histories: a step. The histories: a step that publishes; the first step of one that wrote nothing. The histories: Step whole; the cells as of a version out of the histories alone. What the histories tell in the end; where they begin. The histories: Read and Write whole, as the law's calls meet them. The histories in the end: an Abort, or Steps until it is over. How many cells one writes at most; the number of cells stays. The histories speak of the six cells alone; 'at' does not ask in which order a map is told.
-/
import Derived.Test.YtafiopjgegmfoaaTSit
namespace Go.Proofs.Ytafiopjgegmfoaa.T
open Go.RowKit Go.Proofs.Ytafiopjgegmfoaa.C
def TX.Ws (X : TX) : List Int := srt (kys X.S.W)
def TX.Rs (X : TX) : List Int := srt (kys X.S.R)
/-- the phases: d is done, r is left -/
inductive Phs where
  | opn
  | lock (d r : List Int)
  | look (d r : List Int)
  | pub (d r : List Int)
  | over
def Phs.ok (X : TX) : Phs → Prop
  | .opn => X.st = 1 ∧ X.ver = 0 ∧ X.pub = false
  | .lock d r => X.st = 2 ∧ X.Ws = d ++ r ∧ X.Ws ≠ [] ∧ X.left = r.map .lock ++ .adv :: (X.Rs.map .look ++ X.Ws.map .pub) ∧ X.ver = 0 ∧ X.pub = false
  | .look d r => X.st = 2 ∧ X.Rs = d ++ r ∧ r ≠ [] ∧ X.Ws ≠ [] ∧ X.left = r.map .look ++ X.Ws.map .pub ∧ X.pub = false
  | .pub d r => X.st = 2 ∧ X.Ws = d ++ r ∧ r ≠ [] ∧ X.left = r.map .pub ∧ (X.pub = true ↔ d ≠ [])
  | .over => X.st = 3 ∨ X.st = 4
def Phs.owns (X : TX) : Phs → List Int
  | .lock d _ => d
  | .look _ _ => X.Ws
  | .pub _ r => r
  | _ => []
def Phs.has : Phs → Prop
  | .look _ _ => True
  | .pub _ _ => True
  | _ => False
structure Inv (m : M) (n : Nat) (X : Nat → TX) (P : Nat → Phs) : Prop where
  ok : ∀ j, j < n → (P j).ok (X j)
  own : ∀ j, j < n → (X j).own = (j : Int) + 1
  nd : ∀ j, j < n → (kys (X j).S.W).Nodup
  ex : ∀ j, j < n → ∀ i ∈ kys (X j).S.W, ∃ c, m.cell? i = some c
  cell : ∀ i c, m.cell? i = some c → 0 ≤ c.ver ∧ c.ver ≤ m.k ∧ (c.own = 0 ∨ ∃ j, j < n ∧ c.own = (j : Int) + 1 ∧ i ∈ (P j).owns (X j))
  mine : ∀ j, j < n → ∀ i ∈ (P j).owns (X j), ∃ c, m.cell? i = some c ∧ c.own = (j : Int) + 1 ∧ ((P j).has → c.ver < (X j).ver)
  ver : ∀ j, j < n → (P j).has → 1 ≤ (X j).ver ∧ (X j).ver ≤ m.k
  uni : ∀ i j, i < n → j < n → i ≠ j → (P i).has → (P j).has → (X i).ver ≠ (X j).ver
  k0 : 0 ≤ m.k
section
variable {m m' : M} {n j : Nat} {X : Nat → TX} {P : Nat → Phs} {x : TX} {p : Phs}
/-- cell i is another one's only if that one owns it -/
theorem Inv.other (h : Inv m n X P) {i : Int} {a b : Nat} (ha : a < n) (hb : b < n) (hab : a ≠ b) (hi : i ∈ (P a).owns (X a)) : i ∉ (P b).owns (X b) := fun hi2 => by
  obtain ⟨c1, e1, o1, _⟩ := h.mine a ha i hi
  obtain ⟨c2, e2, o2, _⟩ := h.mine b hb i hi2
  rw [e1] at e2
  injection e2 with e2
  rw [e2, o2] at o1
  omega
/-- all but j stands: what must be shown of j -/
theorem Inv.turn (h : Inv m n X P) (hj : j < n) (hok : p.ok x) (hown : x.own = (j : Int) + 1) (hnd : (kys x.S.W).Nodup) (hex : ∀ i ∈ kys x.S.W, ∃ c, m'.cell? i = some c)
    (hk : m.k ≤ m'.k)
    (hcell : ∀ i c, m'.cell? i = some c → 0 ≤ c.ver ∧ c.ver ≤ m'.k ∧ (c.own = 0 ∨ (c.own = (j : Int) + 1 ∧ i ∈ p.owns x) ∨ ∃ a, a < n ∧ a ≠ j ∧ c.own = (a : Int) + 1 ∧ i ∈ (P a).owns (X a)))
    (hsame : ∀ i, (∃ c, m.cell? i = some c) → ∃ c, m'.cell? i = some c)
    (hoth : ∀ i c, m.cell? i = some c → (∃ a, a < n ∧ a ≠ j ∧ i ∈ (P a).owns (X a)) → m'.cell? i = some c)
    (hmine : ∀ i ∈ p.owns x, ∃ c, m'.cell? i = some c ∧ c.own = (j : Int) + 1 ∧ (p.has → c.ver < x.ver))
    (hver : p.has → 1 ≤ x.ver ∧ x.ver ≤ m'.k) (huni : ∀ a, a < n → a ≠ j → (P a).has → p.has → (X a).ver ≠ x.ver) : Inv m' n (upd X j x) (upd P j p) := by
  refine ⟨fun a ha => ?_, fun a ha => ?_, fun a ha => ?_, fun a ha => ?_, fun i c hc => ?_, fun a ha => ?_, fun a ha => ?_, fun a b ha hb hab => ?_, Int.le_trans h.k0 hk⟩
  · by_cases e : a = j
    · subst e; rw [upd_same, upd_same]; exact hok
    · rw [upd_other _ _ e, upd_other _ _ e]; exact h.ok a ha
  · by_cases e : a = j
    · subst e; rw [upd_same]; exact hown
    · rw [upd_other _ _ e]; exact h.own a ha
  · by_cases e : a = j
    · subst e; rw [upd_same]; exact hnd
    · rw [upd_other _ _ e]; exact h.nd a ha
  · by_cases e : a = j
    · subst e; rw [upd_same]; exact hex
    · rw [upd_other _ _ e]; exact fun i hi => hsame i (h.ex a ha i hi)
  · obtain ⟨a1, a2, a3⟩ := hcell i c hc
    refine ⟨a1, a2, ?_⟩
    rcases a3 with a3 | ⟨a3, a4⟩ | ⟨a, b1, b2, b3, b4⟩
    · exact .inl a3
    · exact .inr ⟨j, hj, a3, by rw [upd_same, upd_same]; exact a4⟩
    · exact .inr ⟨a, b1, b3, by rw [upd_other _ _ b2, upd_other _ _ b2]; exact b4⟩
  · by_cases e : a = j
    · subst e; rw [upd_same, upd_same]; exact hmine
    · rw [upd_other _ _ e, upd_other _ _ e]
      intro i hi
      obtain ⟨c, c1, c2, c3⟩ := h.mine a ha i hi
      exact ⟨c, hoth i c c1 ⟨a, ha, e, hi⟩, c2, c3⟩
  · by_cases e : a = j
    · subst e; rw [upd_same, upd_same]; exact hver
    · rw [upd_other _ _ e, upd_other _ _ e]
      intro hh
      have := h.ver a ha hh
      exact ⟨this.1, Int.le_trans this.2 hk⟩
  · by_cases e : a = j
    · subst e
      rw [upd_same, upd_same, upd_other _ _ (fun e => hab e.symm), upd_other _ _ (fun e => hab e.symm)]
      intro h1 h2 e
      exact huni b hb (fun e => hab e.symm) h2 h1 e.symm
    · by_cases e2 : b = j
      · subst e2
        rw [upd_same, upd_same, upd_other _ _ e, upd_other _ _ e]
        exact fun h1 h2 => huni a ha e h1 h2
      · rw [upd_other _ _ e, upd_other _ _ e, upd_other _ _ e2, upd_other _ _ e2]
        exact h.uni a b ha hb hab
/-- the memory as it was, and j's phase owns what it owned -/
theorem Inv.same (h : Inv m n X P) (hj : j < n) (hok : p.ok x) (hown : x.own = (j : Int) + 1) (hnd : (kys x.S.W).Nodup) (hex : ∀ i ∈ kys x.S.W, ∃ c, m.cell? i = some c) (ho : p.owns x = (P j).owns (X j)) (hh : p.has ↔ (P j).has) (hv : (P j).has → x.ver = (X j).ver) : Inv m n (upd X j x) (upd P j p) := by
  refine h.turn hj hok hown hnd hex (Int.le_refl _) (fun i c hc => ?_) (fun _ h => h) (fun _ _ h _ => h) ?_ ?_ ?_
  · obtain ⟨a1, a2, a3⟩ := h.cell i c hc
    refine ⟨a1, a2, ?_⟩
    rcases a3 with a3 | ⟨a, b1, b2, b3⟩
    · exact .inl a3
    · by_cases e : a = j
      · subst e; exact .inr (.inl ⟨b2, by rw [ho]; exact b3⟩)
      · exact .inr (.inr ⟨a, b1, e, b2, b3⟩)
  · intro i hi
    rw [ho] at hi
    obtain ⟨c, c1, c2, c3⟩ := h.mine j hj i hi
    exact ⟨c, c1, c2, fun q => by rw [hv (hh.1 q)]; exact c3 (hh.1 q)⟩
  · intro q
    rw [hv (hh.1 q)]
    exact h.ver j hj (hh.1 q)
  · intro a ha e h1 h2
    rw [hv (hh.1 h2)]
    exact h.uni a j ha hj e h1 (hh.1 h2)
/-- it fails, or is over: it owns nothing any more -/
theorem Inv.fail (h : Inv m n X P) (hj : j < n) (hst : x.st = 4) (hown : x.own = (j : Int) + 1) (hS : x.S = (X j).S) : Inv (m.rel ((j : Int) + 1)) n (upd X j x) (upd P j .over) := by
  have cs : ∀ i c, (m.rel ((j : Int) + 1)).cell? i = some c → ∃ d, m.cell? i = some d ∧ c = if d.own = (j : Int) + 1 then { d with own := 0 } else d := fun i c hc => by
    rw [rel_cell] at hc
    cases hd : m.cell? i with
    | none => rw [hd] at hc; cases hc
    | some d => rw [hd] at hc; injection hc with hc; exact ⟨d, rfl, hc.symm⟩
  have ex : ∀ i, (∃ c, m.cell? i = some c) → ∃ c, (m.rel ((j : Int) + 1)).cell? i = some c := fun i ⟨c, hc⟩ => ⟨_, by rw [rel_cell, hc]; rfl⟩
  refine h.turn hj (.inr hst) hown (by rw [hS]; exact h.nd j hj) (by rw [hS]; exact fun i hi => ex i (h.ex j hj i hi)) (Int.le_refl _) (fun i c hc => ?_) ex (fun i c hc ⟨a, ha, e, hi⟩ => ?_) (fun i hi => by cases hi) (fun q => q.elim) (fun _ _ _ _ q => q.elim)
  · obtain ⟨d, hd, e⟩ := cs i c hc
    obtain ⟨a1, a2, a3⟩ := h.cell i d hd
    by_cases o : d.own = (j : Int) + 1
    · rw [if_pos o] at e
      subst e
      exact ⟨a1, a2, .inl rfl⟩
    · rw [if_neg o] at e
      subst e
      refine ⟨a1, a2, ?_⟩
      rcases a3 with a3 | ⟨a, b1, b2, b3⟩
      · exact .inl a3
      · exact .inr (.inr ⟨a, b1, fun e => o (by rw [b2, e]), b2, b3⟩)
  · obtain ⟨d, c1, c2, _⟩ := h.mine a ha i hi
    rw [c1] at hc
    injection hc with hc
    subst hc
    rw [rel_cell, c1]
    simp only [Option.map_some]
    rw [if_neg (by rw [c2]; omega)]
/-- one cell is written, one that nobody else owns -/
theorem Inv.put (h : Inv m n X P) (hj : j < n) {i : Int} {c c' : Cl} (hc : m.cell? i = some c) (hc0 : c.own = 0 ∨ c.own = (j : Int) + 1) (hc1 : c'.own = 0 ∨ (c'.own = (j : Int) + 1 ∧ i ∈ p.owns x)) (hv0 : 0 ≤ c'.ver ∧ c'.ver ≤ m.k) (hi : i ∈ p.owns x → c'.own = (j : Int) + 1 ∧ (p.has → c'.ver < x.ver)) (ho : ∀ q, q ≠ i → (q ∈ p.owns x ↔ q ∈ (P j).owns (X j)))
    (hok : p.ok x) (hown : x.own = (j : Int) + 1) (hS : x.S = (X j).S) (hh : p.has → (P j).has) (hv : (P j).has → x.ver = (X j).ver) : Inv (m.put i c') n (upd X j x) (upd P j p) := by
  have pc := put_cell m i c' ⟨c, hc⟩
  have ex : ∀ q, (∃ d, m.cell? q = some d) → ∃ d, (m.put i c').cell? q = some d := fun q ⟨d, hd⟩ => by
    rw [pc]
    split
    · exact ⟨_, rfl⟩
    · exact ⟨d, hd⟩
  refine h.turn hj hok hown (by rw [hS]; exact h.nd j hj) (by rw [hS]; exact fun q hq => ex q (h.ex j hj q hq)) (Int.le_refl _) (fun q d hd => ?_) ex (fun q d hd ⟨a, ha, e, hq⟩ => ?_) (fun q hq => ?_) (fun q => ?_) (fun a ha e h1 h2 => ?_)
  · rw [pc] at hd
    by_cases e : q = i
    · rw [if_pos e] at hd
      injection hd with hd
      subst hd
      subst e
      exact ⟨hv0.1, hv0.2, hc1.imp id .inl⟩
    · rw [if_neg e] at hd
      obtain ⟨a1, a2, a3⟩ := h.cell q d hd
      refine ⟨a1, a2, ?_⟩
      rcases a3 with a3 | ⟨a, b1, b2, b3⟩
      · exact .inl a3
      · by_cases e2 : a = j
        · subst e2; exact .inr (.inl ⟨b2, (ho q e).2 b3⟩)
        · exact .inr (.inr ⟨a, b1, e2, b2, b3⟩)
  · rw [pc]
    rw [if_neg (fun e2 => ?_)]
    · exact hd
    · subst e2
      obtain ⟨c2, e3, o3, _⟩ := h.mine a ha q hq
      rw [hc] at e3
      injection e3 with e3
      rw [e3] at hc0
      omega
  · by_cases e : q = i
    · subst e
      exact ⟨c', by rw [pc, if_pos rfl], (hi hq).1, (hi hq).2⟩
    · obtain ⟨d, d1, d2, d3⟩ := h.mine j hj q ((ho q e).1 hq)
      exact ⟨d, by rw [pc, if_neg e]; exact d1, d2, fun w => by rw [hv (hh w)]; exact d3 (hh w)⟩
  · rw [hv (hh q)]
    exact h.ver j hj (hh q)
  · rw [hv (hh h2)]
    exact h.uni a j ha hj e h1 (hh h2)
/-- what Lock does -/
theorem lock_says (m : M) (i o : Int) (ho : 1 ≤ o) : ((m.lock i o).2 ≠ 0 ∧ (m.lock i o).1 = m) ∨ ((m.lock i o).2 = 0 ∧ ∃ c, m.cell? i = some c ∧ (c.own = 0 ∨ c.own = o) ∧ (m.lock i o).1 = m.put i { c with own := o }) := by
  unfold M.lock
  cases hc : m.cell? i with
  | none => exact .inl ⟨by simp, rfl⟩
  | some c =>
    dsimp only
    rw [if_neg (by omega)]
    by_cases h : c.own ≠ 0 ∧ c.own ≠ o
    · rw [if_pos h]; exact .inl ⟨by simp, rfl⟩
    · rw [if_neg h]
      refine .inr ⟨rfl, c, rfl, ?_, rfl⟩
      by_cases e : c.own = 0
      · exact .inl e
      · exact .inr (Classical.byContradiction fun e2 => h ⟨e, e2⟩)
/-- what Publish does where it may -/
theorem publish_says (m : M) {i o k : Int} (v : Value) {c : Cl} (ho : 1 ≤ o) (hc : m.cell? i = some c) (h1 : c.own = o) (h2 : c.ver < k) (h3 : k ≤ m.k) : m.publish i o v k = (m.put i ⟨v, k, 0⟩, 0) := by
  unfold M.publish
  rw [hc]
  dsimp only
  rw [if_neg (by omega), if_neg (by simpa using h1), if_neg (by omega)]
theorem adv_says (m : M) : (m.adv.2.2 ≠ 0 ∧ m.adv.1 = m) ∨ (m.adv.2.2 = 0 ∧ m.adv.2.1 = m.k + 1 ∧ m.adv.1 = ⟨m.C, m.k + 1⟩) := by
  unfold M.adv
  split
  · exact .inl ⟨by simp, rfl⟩
  · exact .inr ⟨rfl, rfl, rfl⟩
theorem Ws_nd {m : M} {n : Nat} {X : Nat → TX} {P : Nat → Phs} (h : Inv m n X P) {j : Nat} (hj : j < n) : (X j).Ws.Nodup := by
  have := h.nd j hj
  unfold TX.Ws srt
  exact (List.mergeSort_perm _ _).nodup_iff.2 this
theorem Ws_mem (X : TX) (i : Int) : i ∈ X.Ws ↔ i ∈ kys X.S.W := srt_mem _ _
end
end Go.Proofs.Ytafiopjgegmfoaa.T
namespace Go.Proofs.Ytafiopjgegmfoaa.T
open Go.RowKit Go.Proofs.Ytafiopjgegmfoaa.C
/-- what stays of a transaction through its steps -/
structure Kin (x x1 : TX) : Prop where
  S : x1.S = x.S
  own : x1.own = x.own
  beg : x1.beg = x.beg
/-- what a step does: from phase q to phase q' -/
inductive Did (m : M) (x : TX) : Phs → Int × Int × M × TX → Phs → Prop
  | fail {q : Phs} {e : Int} {x1 : TX} (he : e ≠ 0) (hk : Kin x x1) (hst : x1.st = 4) (hq : ∀ d r, q ≠ .pub d r) : Did m x q (4, e, m.rel x.own, x1) .over
  | lock {d r : List Int} {i : Int} {c : Cl} {x1 : TX} (hc : m.cell? i = some c) (ho : c.own = 0 ∨ c.own = x.own) (hk : Kin x x1) (hv : x1.ver = x.ver) : Did m x (.lock d (i :: r)) (2, 0, m.put i { c with own := x.own }, x1) (.lock (d ++ [i]) r)
  | adv {d : List Int} {q' : Phs} {x1 : TX} (hk : Kin x x1) (hv : x1.ver = m.k + 1) (hq : q' = .look [] x.Rs ∨ (x.Rs = [] ∧ q' = .pub [] x.Ws)) : Did m x (.lock d []) (2, 0, ⟨m.C, m.k + 1⟩, x1) q'
  | look {d r : List Int} {i : Int} {c : Cl} {q' : Phs} {x1 : TX} (hc : m.cell? i = some c) (ho : c.own = 0 ∨ c.own = x.own) (hs : x.oth i c.ver = false) (hk : Kin x x1) (hv : x1.ver = x.ver) (hq : (r ≠ [] ∧ q' = .look (d ++ [i]) r) ∨ (r = [] ∧ q' = .pub [] x.Ws)) : Did m x (.look d (i :: r)) (2, 0, m, x1) q'
  | pub {d r : List Int} {i st : Int} {c : Cl} {q' : Phs} {x1 : TX} (hc : m.cell? i = some c) (ho : c.own = x.own) (hcv : c.ver < x.ver) (hk : Kin x x1) (hv : x1.ver = x.ver) (hq : (r ≠ [] ∧ st = 2 ∧ q' = .pub (d ++ [i]) r) ∨ (r = [] ∧ st = 3 ∧ x1.st = 3 ∧ q' = .over)) : Did m x (.pub d (i :: r)) (st, 0, m.put i ⟨.int .i64 ((gt x.S.W i).getD 0), x.ver, 0⟩, x1) q'
section
variable {m : M} {n j : Nat} {X : Nat → TX} {P : Nat → Phs}
theorem go_cons {m : M} {X : TX} {s : Stp} {L : List Stp} (h : X.left = s :: L) : X.go m = TX.fin X.own L (TX.do1 m { X with left := L } s) := by
  unfold TX.go
  rw [h]
theorem fin_err {o : Int} {L : List Stp} {r : Int × M × TX} (h : r.1 ≠ 0) : TX.fin o L r = (4, r.1, r.2.1.rel o, r.2.2.fail) := by unfold TX.fin; rw [if_pos h]
theorem fin_ok {o : Int} {L : List Stp} {r : Int × M × TX} (h : r.1 = 0) (hL : L ≠ []) : TX.fin o L r = (r.2.2.st, 0, r.2.1, r.2.2) := by
  unfold TX.fin; rw [if_neg (by simpa using h), if_neg (by simpa using hL)]
theorem fin_end {o : Int} {r : Int × M × TX} (h : r.1 = 0) : TX.fin o [] r = (3, 0, r.2.1, { r.2.2 with st := 3, left := [] }) := by
  unfold TX.fin; rw [if_neg (by simpa using h), if_pos (show ([] : List Stp).length = 0 from rfl)]
theorem Inv.go (h : Inv m n X P) (hj : j < n) (hst : (X j).st = 2) : ∃ p, Inv ((X j).go m).2.2.1 n (upd X j ((X j).go m).2.2.2) (upd P j p) ∧ Did m (X j) (P j) ((X j).go m) p := by
  have hok := h.ok j hj
  have hown := h.own j hj
  have ho1 : 1 ≤ (X j).own := by omega
  have hnd := Ws_nd h hj
  cases hp : P j with
  | opn => rw [hp] at hok; have := hok.1; omega
  | over => rw [hp] at hok; rcases hok with e | e <;> omega
  | lock d r =>
    rw [hp] at hok
    obtain ⟨_, hW, hWn, hL, hver, hpub⟩ := hok
    cases r with
    | nil =>
      rw [List.map_nil, List.nil_append] at hL
      rw [go_cons hL]
      rcases adv_says m with ⟨e1, e2⟩ | ⟨e1, e2, e3⟩
      · rw [fin_err (r := TX.do1 m { X j with left := (X j).Rs.map Stp.look ++ (X j).Ws.map Stp.pub } .adv) e1]
        refine ⟨.over, ?_, ?_⟩
        · show Inv (m.adv.1.rel _) n _ _
          rw [e2, hown]
          exact h.fail hj rfl hown rfl
        · show Did m (X j) (.lock d []) (4, _, m.adv.1.rel _, _) .over
          rw [e2]
          exact .fail e1 ⟨rfl, rfl, rfl⟩ rfl (fun _ _ e => by cases e)
      · have hne : (X j).Rs.map Stp.look ++ (X j).Ws.map Stp.pub ≠ [] := by simp [hWn]
        rw [fin_ok (r := TX.do1 m { X j with left := (X j).Rs.map Stp.look ++ (X j).Ws.map Stp.pub } .adv) e1 hne]
        have hd : d = (X j).Ws := by simpa using hW.symm
        show ∃ p, Inv m.adv.1 n (upd X j { X j with left := _, ver := m.adv.2.1 }) (upd P j p) ∧ Did m (X j) (.lock d []) ((X j).st, 0, m.adv.1, { X j with left := _, ver := m.adv.2.1 }) p
        rw [e2, e3, hst]
        have tr : ∀ q : Phs, q.ok { X j with left := (X j).Rs.map Stp.look ++ (X j).Ws.map Stp.pub, ver := m.k + 1 } → q.owns { X j with left := (X j).Rs.map Stp.look ++ (X j).Ws.map Stp.pub, ver := m.k + 1 } = (X j).Ws → q.has → Inv ⟨m.C, m.k + 1⟩ n (upd X j { X j with left := (X j).Rs.map Stp.look ++ (X j).Ws.map Stp.pub, ver := m.k + 1 }) (upd P j q) := fun q hq1 hq2 hq3 => by
          have hk0 := h.k0
          refine h.turn hj hq1 hown (h.nd j hj) (h.ex j hj) (show m.k ≤ m.k + 1 by omega) (fun i c hc => ?_) (fun _ h => h) (fun _ _ h _ => h) (fun i hi => ?_) (fun _ => ⟨by show 1 ≤ m.k + 1; omega, by show m.k + 1 ≤ m.k + 1; omega⟩) (fun a ha e h1 _ => ?_)
          · obtain ⟨a1, a2, a3⟩ := h.cell i c hc
            refine ⟨a1, by show c.ver ≤ m.k + 1; omega, ?_⟩
            rcases a3 with a3 | ⟨a, b1, b2, b3⟩
            · exact .inl a3
            · by_cases e : a = j
              · subst e
                refine .inr (.inl ⟨b2, ?_⟩)
                rw [hq2]
                rw [hp] at b3
                rw [← hd]; exact b3
              · exact .inr (.inr ⟨a, b1, e, b2, b3⟩)
          · rw [hq2] at hi
            obtain ⟨c, c1, c2, _⟩ := h.mine j hj i (by rw [hp]; show i ∈ d; rw [hd]; exact hi)
            have := (h.cell i c c1).2.1
            exact ⟨c, c1, c2, fun _ => by show c.ver < m.k + 1; omega⟩
          · have := (h.ver a ha h1).2
            show (X a).ver ≠ m.k + 1
            omega
        by_cases hR : (X j).Rs = []
        · refine ⟨.pub [] (X j).Ws, tr _ ⟨hst, rfl, hWn, by show (X j).Rs.map Stp.look ++ (X j).Ws.map Stp.pub = _; rw [hR]; rfl, by show (X j).pub = true ↔ _; rw [hpub]; simp⟩ rfl trivial, .adv ⟨rfl, rfl, rfl⟩ rfl (.inr ⟨hR, rfl⟩)⟩
        · refine ⟨.look [] (X j).Rs, tr _ ⟨hst, rfl, hR, hWn, rfl, hpub⟩ rfl trivial, .adv ⟨rfl, rfl, rfl⟩ rfl (.inl rfl)⟩
    | cons i r =>
      rw [List.map_cons, List.cons_append] at hL
      rw [go_cons hL]
      have hi : i ∈ (X j).Ws := by rw [hW]; simp
      rcases lock_says m i (X j).own ho1 with ⟨e1, e2⟩ | ⟨e1, c, e2, e3, e4⟩
      · rw [fin_err (r := TX.do1 m { X j with left := r.map Stp.lock ++ Stp.adv :: ((X j).Rs.map Stp.look ++ (X j).Ws.map Stp.pub) } (.lock i)) e1]
        refine ⟨.over, ?_, ?_⟩
        · show Inv ((m.lock i (X j).own).1.rel _) n _ _
          rw [e2, hown]
          exact h.fail hj rfl hown rfl
        · show Did m (X j) (.lock d (i :: r)) (4, _, (m.lock i (X j).own).1.rel _, _) .over
          rw [e2]
          exact .fail e1 ⟨rfl, rfl, rfl⟩ rfl (fun _ _ e => by cases e)
      · have hne : r.map Stp.lock ++ Stp.adv :: ((X j).Rs.map Stp.look ++ (X j).Ws.map Stp.pub) ≠ [] := by simp
        rw [fin_ok (r := TX.do1 m { X j with left := r.map Stp.lock ++ Stp.adv :: ((X j).Rs.map Stp.look ++ (X j).Ws.map Stp.pub) } (.lock i)) e1 hne]
        show ∃ p, Inv (m.lock i (X j).own).1 n (upd X j { X j with left := _ }) (upd P j p) ∧ Did m (X j) (.lock d (i :: r)) ((X j).st, 0, (m.lock i (X j).own).1, { X j with left := _ }) p
        rw [e4, hst]
        refine ⟨.lock (d ++ [i]) r, ?_, .lock e2 e3 ⟨rfl, rfl, rfl⟩ rfl⟩
        have cv := h.cell i c e2
        refine h.put hj e2 (by rw [hown] at e3; exact e3) (.inr ⟨by show (X j).own = _; exact hown, by show i ∈ d ++ [i]; simp⟩) ⟨cv.1, cv.2.1⟩ (fun _ => ⟨by show (X j).own = _; exact hown, fun q => q.elim⟩) (fun q hq => ?_) ⟨hst, by rw [List.append_assoc]; exact hW, hWn, rfl, hver, hpub⟩ hown rfl (fun q => q.elim) (fun _ => rfl)
        rw [hp]
        show q ∈ d ++ [i] ↔ q ∈ d
        simp [hq]
  | look d r =>
    rw [hp] at hok
    obtain ⟨_, hR, hr, hWn, hL, hpub⟩ := hok
    cases r with
    | nil => exact absurd rfl hr
    | cons i r =>
      rw [List.map_cons, List.cons_append] at hL
      rw [go_cons hL]
      have hne : r.map Stp.look ++ (X j).Ws.map Stp.pub ≠ [] := by simp [hWn]
      have fl : ∀ e : Int, e ≠ 0 → TX.do1 m { X j with left := r.map Stp.look ++ (X j).Ws.map Stp.pub } (.look i) = (e, m, { X j with left := r.map Stp.look ++ (X j).Ws.map Stp.pub }) → ∃ p, Inv (TX.fin (X j).own (r.map Stp.look ++ (X j).Ws.map Stp.pub) (TX.do1 m { X j with left := r.map Stp.look ++ (X j).Ws.map Stp.pub } (.look i))).2.2.1 n (upd X j (TX.fin (X j).own (r.map Stp.look ++ (X j).Ws.map Stp.pub) (TX.do1 m { X j with left := r.map Stp.look ++ (X j).Ws.map Stp.pub } (.look i))).2.2.2) (upd P j p) ∧ Did m (X j) (.look d (i :: r)) (TX.fin (X j).own (r.map Stp.look ++ (X j).Ws.map Stp.pub) (TX.do1 m { X j with left := r.map Stp.look ++ (X j).Ws.map Stp.pub } (.look i))) p := fun e he e1 => by
        rw [e1, fin_err (r := (e, m, _)) he]
        refine ⟨.over, ?_, .fail he ⟨rfl, rfl, rfl⟩ rfl (fun _ _ e => by cases e)⟩
        show Inv (m.rel _) n _ _
        rw [hown]
        exact h.fail hj rfl hown rfl
      cases hc : m.cell? i with
      | none => exact fl 2 (by decide) (by simp only [TX.do1, hc])
      | some c =>
        by_cases hb : (c.own ≠ 0 ∧ c.own ≠ (X j).own) ∨ (X j).oth i c.ver = true
        · exact fl 131 (by decide) (by simp only [TX.do1, hc]; exact if_pos hb)
        · have e1 : TX.do1 m { X j with left := r.map Stp.look ++ (X j).Ws.map Stp.pub } (.look i) = (0, m, { X j with left := r.map Stp.look ++ (X j).Ws.map Stp.pub }) := by simp only [TX.do1, hc]; exact if_neg hb
          rw [e1, fin_ok (r := (0, m, _)) rfl hne]
          show ∃ p, Inv m n (upd X j _) (upd P j p) ∧ Did m (X j) (.look d (i :: r)) ((X j).st, 0, m, _) p
          rw [hst]
          have ho : c.own = 0 ∨ c.own = (X j).own := by
            by_cases e : c.own = 0
            · exact .inl e
            · exact .inr (Classical.byContradiction fun e2 => hb (.inl ⟨e, e2⟩))
          have hs : (X j).oth i c.ver = false := by
            cases hh : (X j).oth i c.ver with
            | false => rfl
            | true => exact absurd (.inr hh) hb
          have hph : (P j).has := by rw [hp]; trivial
          by_cases hr0 : r = []
          · refine ⟨.pub [] (X j).Ws, h.same hj ⟨hst, rfl, hWn, ?_, ?_⟩ hown (h.nd j hj) (h.ex j hj) (by rw [hp]; rfl) ⟨fun _ => hph, fun _ => trivial⟩ (fun _ => rfl), .look hc ho hs ⟨rfl, rfl, rfl⟩ rfl (.inr ⟨hr0, rfl⟩)⟩
            · show r.map Stp.look ++ (X j).Ws.map Stp.pub = _
              rw [hr0]; rfl
            · show (X j).pub = true ↔ _
              rw [hpub]; simp
          · exact ⟨.look (d ++ [i]) r, h.same hj ⟨hst, by rw [List.append_assoc]; exact hR, hr0, hWn, rfl, hpub⟩ hown (h.nd j hj) (h.ex j hj) (by rw [hp]; rfl) ⟨fun _ => hph, fun _ => trivial⟩ (fun _ => rfl), .look hc ho hs ⟨rfl, rfl, rfl⟩ rfl (.inl ⟨hr0, rfl⟩)⟩
  | pub d r =>
    rw [hp] at hok
    obtain ⟨_, hW, hr, hL, hpub⟩ := hok
    cases r with
    | nil => exact absurd rfl hr
    | cons i r =>
      rw [List.map_cons] at hL
      rw [go_cons hL]
      have hph : (P j).has := by rw [hp]; trivial
      obtain ⟨c, hc, ho, hcv⟩ := h.mine j hj i (by rw [hp]; exact List.mem_cons_self)
      have hcv := hcv hph
      have hv := h.ver j hj hph
      have ep := publish_says m (.int .i64 ((gt (X j).S.W i).getD 0)) ho1 hc (ho.trans hown.symm) hcv hv.2
      have e1 : TX.do1 m { X j with left := r.map Stp.pub } (.pub i) = (0, m.put i ⟨.int .i64 ((gt (X j).S.W i).getD 0), (X j).ver, 0⟩, { X j with left := r.map Stp.pub, pub := true }) := by
        simp only [TX.do1]
        rw [ep]
        rfl
      rw [e1]
      have hir : i ∉ r := by
        rw [hW] at hnd
        have := (List.nodup_append.1 hnd).2.1
        exact (List.nodup_cons.1 this).1
      by_cases hr0 : r = []
      · subst hr0
        rw [List.map_nil, fin_end (r := (0, _, _)) rfl]
        refine ⟨.over, ?_, .pub hc (ho.trans hown.symm) hcv ⟨rfl, rfl, rfl⟩ rfl (.inr ⟨rfl, rfl, rfl, rfl⟩)⟩
        refine h.put hj hc (.inr ho) (.inl rfl) ⟨by show 0 ≤ (X j).ver; omega, hv.2⟩ (fun q => by cases q) (fun q hq => ?_) (.inl rfl) hown rfl (fun q => q.elim) (fun _ => rfl)
        rw [hp]
        show q ∈ [] ↔ q ∈ [i]
        simp [hq]
      · rw [fin_ok (r := (0, _, _)) rfl (by simpa using hr0)]
        show ∃ p, Inv _ n (upd X j _) (upd P j p) ∧ Did m (X j) (.pub d (i :: r)) ((X j).st, 0, _, _) p
        rw [hst]
        refine ⟨.pub (d ++ [i]) r, ?_, .pub hc (ho.trans hown.symm) hcv ⟨rfl, rfl, rfl⟩ rfl (.inl ⟨hr0, rfl, rfl⟩)⟩
        refine h.put hj hc (.inr ho) (.inl rfl) ⟨by show 0 ≤ (X j).ver; omega, hv.2⟩ (fun q => absurd q hir) (fun q hq => ?_) ⟨hst, by rw [List.append_assoc]; exact hW, hr0, rfl, by simp⟩ hown rfl (fun _ => hph) (fun _ => rfl)
        rw [hp]
        show q ∈ r ↔ q ∈ i :: r
        simp [hq]
end
end Go.Proofs.Ytafiopjgegmfoaa.T
namespace Go.Proofs.Ytafiopjgegmfoaa.T
open Go.RowKit Go.Proofs.Ytafiopjgegmfoaa.C
/-- nobody has yet to publish cell i with a version up to b -/
def Fix (m : M) (n : Nat) (X : Nat → TX) (P : Nat → Phs) (b i : Int) : Prop := b ≤ m.k ∧ ∀ a, a < n → (P a).has → (X a).ver ≤ b → i ∉ (P a).owns (X a)
/-- V: the cells as of a version; Pb: what was published -/
structure Gh (m : M) (V : Int → Int → Int) (Pb : Int → Int → Int → Prop) : Prop where
  val : ∀ i c, m.cell? i = some c → ∀ b, c.ver ≤ b → c.v = .int .i64 (V b i)
  zero : ∀ b i, b ≤ 0 → V b i = 0
  pos : ∀ b i v, Pb b i v → 1 ≤ b ∧ V b i = v
  old : ∀ b i, 1 ≤ b → (∀ v, ¬ Pb b i v) → V b i = V (b - 1) i
  low : ∀ b i v, Pb b i v → ∃ c, m.cell? i = some c ∧ b ≤ c.ver
  top : ∀ i c, m.cell? i = some c → c.ver ≤ 0 ∨ ∃ v, Pb c.ver i v
def nV (x : TX) (V : Int → Int → Int) : Phs → Int → Int → Int
  | .pub _ (i :: _) => fun b q => if q = i ∧ x.ver ≤ b then (gt x.S.W i).getD 0 else V b q
  | _ => V
def nP (x : TX) (Pb : Int → Int → Int → Prop) : Phs → Int → Int → Int → Prop
  | .pub _ (i :: _) => fun b q v => Pb b q v ∨ (b = x.ver ∧ q = i ∧ v = (gt x.S.W i).getD 0)
  | _ => Pb
section
variable {m m' : M} {n j : Nat} {X : Nat → TX} {P : Nat → Phs} {V : Int → Int → Int} {Pb : Int → Int → Int → Prop} {x : TX} {p : Phs}
theorem Fix.turn {b i : Int} (h : Fix m n X P b i) (hk : m.k ≤ m'.k) (hh : p.has → x.ver ≤ b → i ∉ p.owns x) : Fix m' n (upd X j x) (upd P j p) b i := by
  refine ⟨Int.le_trans h.1 hk, fun a ha => ?_⟩
  by_cases e : a = j
  · subst e; rw [upd_same, upd_same]; exact hh
  · rw [upd_other _ _ e, upd_other _ _ e]; exact h.2 a ha
/-- the cell is nobody's: settled up to now -/
theorem Inv.free (h : Inv m n X P) {i b : Int} {c : Cl} (hc : m.cell? i = some c) (ho : c.own = 0) (hb : b ≤ m.k) : Fix m n X P b i := by
  refine ⟨hb, fun a ha hh _ hi => ?_⟩
  obtain ⟨d, e1, e2, _⟩ := h.mine a ha i hi
  rw [hc] at e1
  injection e1 with e1
  rw [← e1] at e2
  omega
/-- nobody else's: settled below one's own version -/
theorem Inv.below (h : Inv m n X P) (hj : j < n) {i : Int} {c : Cl} (hc : m.cell? i = some c) (ho : c.own = 0 ∨ c.own = (j : Int) + 1) (hp : (P j).has) : Fix m n X P ((X j).ver - 1) i := by
  have hv := h.ver j hj hp
  refine ⟨by omega, fun a ha hh hb hi => ?_⟩
  obtain ⟨d, e1, e2, _⟩ := h.mine a ha i hi
  rw [hc] at e1
  injection e1 with e1
  rw [← e1] at e2
  have : a = j := by omega
  subst this
  omega
theorem Gh.same (h : Gh m V Pb) (hc : ∀ i c, m'.cell? i = some c → ∃ d, m.cell? i = some d ∧ d.v = c.v ∧ d.ver = c.ver) (hx : ∀ i d, m.cell? i = some d → ∃ c, m'.cell? i = some c ∧ d.ver = c.ver) : Gh m' V Pb := by
  refine ⟨fun i c hi b hb => ?_, h.zero, h.pos, h.old, fun b i v hv => ?_, fun i c hi => ?_⟩
  · obtain ⟨d, d1, d2, d3⟩ := hc i c hi
    rw [← d2]
    exact h.val i d d1 b (by omega)
  · obtain ⟨d, d1, d2⟩ := h.low b i v hv
    obtain ⟨c, c1, c2⟩ := hx i d d1
    exact ⟨c, c1, by omega⟩
  · obtain ⟨d, d1, _, d3⟩ := hc i c hi
    rw [← d3]
    exact h.top i d d1
theorem Gh.rel (h : Gh m V Pb) (o : Int) : Gh (m.rel o) V Pb := by
  refine h.same (fun i c hc => ?_) (fun i d hd => ?_)
  · rw [rel_cell] at hc
    cases hd : m.cell? i with
    | none => rw [hd] at hc; cases hc
    | some d =>
      rw [hd] at hc
      injection hc with hc
      refine ⟨d, rfl, ?_⟩
      rw [← hc]
      dsimp only
      split <;> exact ⟨rfl, rfl⟩
  · rw [rel_cell, hd]
    refine ⟨_, rfl, ?_⟩
    dsimp only
    split <;> rfl
theorem Gh.lock (h : Gh m V Pb) {i o : Int} {c : Cl} (hc : m.cell? i = some c) : Gh (m.put i { c with own := o }) V Pb := by
  have pc := put_cell m i { c with own := o } ⟨c, hc⟩
  refine h.same (fun q d hd => ?_) (fun q d hd => ?_)
  · rw [pc] at hd
    by_cases e : q = i
    · rw [if_pos e] at hd
      injection hd with hd
      subst hd
      exact ⟨c, by rw [e]; exact hc, rfl, rfl⟩
    · rw [if_neg e] at hd
      exact ⟨d, hd, rfl, rfl⟩
  · rw [pc]
    by_cases e : q = i
    · rw [if_pos e]
      rw [e, hc] at hd
      injection hd with hd
      exact ⟨_, rfl, by rw [← hd]⟩
    · rw [if_neg e]
      exact ⟨d, hd, rfl⟩
theorem Gh.adv (h : Gh m V Pb) : Gh ⟨m.C, m.k + 1⟩ V Pb := h.same (fun _ c hc => ⟨c, hc, rfl, rfl⟩) (fun _ d hd => ⟨d, hd, rfl⟩)
theorem Gh.pub (h : Gh m V Pb) {i k : Int} {c : Cl} (hc : m.cell? i = some c) (hk : c.ver < k) (h1 : 1 ≤ k) (v : Int) : Gh (m.put i ⟨.int .i64 v, k, 0⟩) (fun b q => if q = i ∧ k ≤ b then v else V b q) (fun b q u => Pb b q u ∨ (b = k ∧ q = i ∧ u = v)) := by
  have pc := put_cell m i ⟨.int .i64 v, k, 0⟩ ⟨c, hc⟩
  refine ⟨fun q d hd b hb => ?_, fun b q hb => ?_, fun b q u hu => ?_, fun b q hb hn => ?_, fun b q u hu => ?_, fun q d hd => ?_⟩
  · rw [pc] at hd
    by_cases e : q = i
    · rw [if_pos e] at hd
      injection hd with hd
      subst hd
      rw [if_pos ⟨e, hb⟩]
    · rw [if_neg e] at hd
      rw [if_neg (fun e2 => e e2.1)]
      exact h.val q d hd b hb
  · rw [if_neg (by omega)]
    exact h.zero b q hb
  · rcases hu with hu | ⟨e1, e2, e3⟩
    · have := h.pos b q u hu
      refine ⟨this.1, ?_⟩
      rw [if_neg]
      · exact this.2
      · rintro ⟨e, e2⟩
        obtain ⟨d, d1, d2⟩ := h.low b q u hu
        rw [e, hc] at d1
        injection d1 with d1
        rw [← d1] at d2
        omega
    · rw [if_pos ⟨e2, by omega⟩]
      exact ⟨by omega, e3.symm⟩
  · have o := h.old b q hb (fun u hu => hn u (.inl hu))
    by_cases e : q = i
    · have hne : b ≠ k := fun e2 => hn v (.inr ⟨e2, e, rfl⟩)
      by_cases hb2 : k ≤ b
      · rw [if_pos ⟨e, hb2⟩, if_pos ⟨e, by omega⟩]
      · rw [if_neg (fun e2 => hb2 e2.2), if_neg (fun e2 => hb2 (by omega)), o]
    · rw [if_neg (fun e2 => e e2.1), if_neg (fun e2 => e e2.1), o]
  · rw [pc]
    by_cases e : q = i
    · rw [if_pos e]
      refine ⟨_, rfl, ?_⟩
      show b ≤ k
      rcases hu with hu | hu
      · obtain ⟨d, d1, d2⟩ := h.low b q u hu
        rw [e, hc] at d1
        injection d1 with d1
        rw [← d1] at d2
        omega
      · omega
    · rw [if_neg e]
      rcases hu with hu | hu
      · exact h.low b q u hu
      · exact absurd hu.2.1 e
  · rw [pc] at hd
    by_cases e : q = i
    · rw [if_pos e] at hd
      injection hd with hd
      subst hd
      exact .inr ⟨v, .inr ⟨rfl, e, rfl⟩⟩
    · rw [if_neg e] at hd
      exact (h.top q d hd).imp id (fun ⟨u, hu⟩ => ⟨u, .inl hu⟩)
/-- a step: what is settled stays -/
theorem Gh.did (h : Gh m V Pb) (hI : Inv m n X P) (hj : j < n) {R : Int × Int × M × TX} (hd : Did m (X j) (P j) R p) : Gh R.2.2.1 (nV (X j) V (P j)) (nP (X j) Pb (P j)) ∧ ∀ b i, Fix m n X P b i → Fix R.2.2.1 n (upd X j R.2.2.2) (upd P j p) b i ∧ nV (X j) V (P j) b i = V b i := by
  have hv := hI.ver j hj
  have fx := fun b i (hf : Fix m n X P b i) => hf.2 j hj
  generalize hq : P j = q at hd
  rw [hq] at hv fx
  cases hd with
  | fail he hk hst hne =>
    have e1 : nV (X j) V q = V := by
      unfold nV
      split
      · exact absurd rfl (hne _ _)
      · rfl
    have e2 : nP (X j) Pb q = Pb := by
      unfold nP
      split
      · exact absurd rfl (hne _ _)
      · rfl
    rw [e1, e2]
    exact ⟨h.rel _, fun b i hf => ⟨hf.turn (Int.le_refl _) (fun q => q.elim), rfl⟩⟩
  | lock hc ho hk hv => exact ⟨h.lock hc, fun b i hf => ⟨hf.turn (Int.le_refl _) (fun q => q.elim), rfl⟩⟩
  | adv hk hvr hp =>
    refine ⟨h.adv, fun b i hf => ⟨hf.turn (show m.k ≤ m.k + 1 by omega) (fun _ hb => ?_), rfl⟩⟩
    have := hf.1
    rw [show ((2, 0, (⟨m.C, m.k + 1⟩ : M), _) : Int × Int × M × TX).2.2.2.ver = m.k + 1 from hvr] at hb
    omega
  | @look d r i c q' x1 hc ho hs hk hvr hp =>
    refine ⟨h, fun b i hf => ⟨hf.turn (Int.le_refl _) (fun _ hb => ?_), rfl⟩⟩
    have := fx b i hf trivial (by rw [← hvr]; exact hb)
    have hS : x1.Ws = (X j).Ws := by unfold TX.Ws; rw [hk.S]
    rcases hp with ⟨_, e⟩ | ⟨_, e⟩
    · rw [e]
      show i ∉ x1.Ws
      rw [hS]
      exact this
    · rw [e]
      exact this
  | @pub d r i st c q' x1 hc ho hcv hk hvr hp =>
    refine ⟨h.pub hc hcv (hv trivial).1 _, fun b q hf => ⟨hf.turn (Int.le_refl _) (fun _ hb => ?_), ?_⟩⟩
    · have := fx b q hf trivial (by rw [← hvr]; exact hb)
      rcases hp with ⟨_, _, e⟩ | ⟨_, _, _, e⟩
      · rw [e]
        exact fun hq => this (List.mem_cons_of_mem _ hq)
      · rw [e]
        exact fun hq => by cases hq
    · refine if_neg (fun e => ?_)
      exact fx b q hf trivial e.2 (by rw [e.1]; exact List.mem_cons_self)
end
end Go.Proofs.Ytafiopjgegmfoaa.T
namespace Go.Proofs.Ytafiopjgegmfoaa.T
open Go.RowKit Go.Proofs.Ytafiopjgegmfoaa.C
theorem upd_id {α : Type} (f : Nat → α) (j : Nat) : upd f j (f j) = f := funext fun i => by
  by_cases e : i = j
  · subst e; rw [upd_same]
  · rw [upd_other _ _ e]
theorem upd_upd {α : Type} (f : Nat → α) (j : Nat) (x y : α) : upd (upd f j x) j y = upd f j y := funext fun i => by
  by_cases e : i = j
  · subst e; rw [upd_same, upd_same]
  · rw [upd_other _ _ e, upd_other _ _ e, upd_other _ _ e]
/-- a call that publishes nothing -/
structure Calm (m m1 : M) (x x1 : TX) (q p : Phs) : Prop where
  mem : m1 = m ∨ m1 = m.rel x.own
  has : p.has → x1 = x ∧ p = q
section
variable {m m1 : M} {n j : Nat} {X : Nat → TX} {P : Nat → Phs} {V : Int → Int → Int} {Pb : Int → Int → Int → Prop} {x : TX} {p : Phs}
theorem Gh.calm (h : Gh m V Pb) (hj : j < n) (hc : Calm m m1 (X j) x (P j) p) : Gh m1 V Pb ∧ ∀ b i, Fix m n X P b i → Fix m1 n (upd X j x) (upd P j p) b i := by
  have hk : m1.k = m.k := by rcases hc.mem with e | e <;> rw [e]; rfl
  refine ⟨?_, fun b i hf => hf.turn (by omega) (fun hp hb => ?_)⟩
  · rcases hc.mem with e | e
    · rw [e]; exact h
    · rw [e]; exact h.rel _
  · obtain ⟨e1, e2⟩ := hc.has hp
    rw [e1] at hb ⊢
    rw [e2] at hp ⊢
    exact hf.2 j hj hp hb
theorem Inv.keep (h : Inv m n X P) : Inv m n (upd X j (X j)) (upd P j (P j)) ∧ Calm m m (X j) (X j) (P j) (P j) := by
  rw [upd_id, upd_id]
  exact ⟨h, .inl rfl, fun _ => ⟨rfl, rfl⟩⟩
theorem Inv.begin (h : Inv m n X P) (hj : j < n) (hp : P j = .over) (k : Int) : Inv m n (upd X j (X0 ((j : Int) + 1) k)) (upd P j .opn) ∧ Calm m m (X j) (X0 ((j : Int) + 1) k) (P j) .opn := by
  refine ⟨h.same hj ⟨rfl, rfl, rfl⟩ rfl List.nodup_nil (fun _ q => by cases q) (by rw [hp]; rfl) (by rw [hp]; exact Iff.rfl) (fun q => by rw [hp] at q; exact q.elim), .inl rfl, fun q => q.elim⟩
/-- one that is open -/
theorem Inv.opn (h : Inv m n X P) (hj : j < n) (hst : (X j).st = 1) : P j = .opn := by
  have hok := h.ok j hj
  cases hp : P j with
  | opn => rfl
  | over => rw [hp] at hok; rcases hok with e | e <;> omega
  | lock d r => rw [hp] at hok; have := hok.1; omega
  | look d r => rw [hp] at hok; have := hok.1; omega
  | pub d r => rw [hp] at hok; have := hok.1; omega
/-- other sets, and nothing else -/
theorem Inv.sets (h : Inv m n X P) (hj : j < n) (hst : (X j).st = 1) (S : SS Int) (hn : (kys S.W).Nodup) (hx : ∀ i ∈ kys S.W, ∃ c, m.cell? i = some c) : Inv m n (upd X j { X j with S := S }) (upd P j (P j)) ∧ Calm m m (X j) { X j with S := S } (P j) (P j) := by
  have hp := h.opn hj hst
  have hok := h.ok j hj
  rw [hp] at hok
  refine ⟨h.same hj (by rw [hp]; exact hok) (h.own j hj) hn hx (by rw [hp]; rfl) Iff.rfl (fun _ => rfl), .inl rfl, fun q => by rw [hp] at q; exact q.elim⟩
theorem Inv.failed (h : Inv m n X P) (hj : j < n) : Inv (m.rel (X j).own) n (upd X j (X j).fail) (upd P j .over) ∧ Calm m (m.rel (X j).own) (X j) (X j).fail (P j) .over := by
  refine ⟨?_, .inr rfl, fun q => q.elim⟩
  rw [h.own j hj]
  exact h.fail hj rfl (h.own j hj) rfl
theorem read_W (S : SS Int) (i v : Int) : (S.read i v).2.W = S.W := by
  unfold SS.read
  repeat' split
  all_goals rfl
theorem Inv.read (h : Inv m n X P) (hj : j < n) (i : Int) : ∃ p, Inv ((X j).read m i).2.2.1 n (upd X j ((X j).read m i).2.2.2) (upd P j p) ∧ Calm m ((X j).read m i).2.2.1 (X j) ((X j).read m i).2.2.2 (P j) p := by
  by_cases hst : (X j).st = 1
  · unfold TX.read
    rw [if_neg (by simpa using hst)]
    cases gt (X j).S.W i with
    | some v => exact ⟨_, h.keep⟩
    | none =>
      cases hc : m.cell? i with
      | none => exact ⟨_, h.keep⟩
      | some c =>
        dsimp only
        split
        · exact ⟨_, h.failed hj⟩
        · have := h.sets hj hst ((X j).S.read i c.ver).2 (by rw [read_W]; exact h.nd j hj) (by rw [read_W]; exact h.ex j hj)
          split <;> exact ⟨_, this⟩
  · unfold TX.read
    rw [if_pos hst]
    exact ⟨_, h.keep⟩
theorem Inv.write (h : Inv m n X P) (hj : j < n) (i v : Int) : Inv m n (upd X j ((X j).write m i v).2) (upd P j (P j)) ∧ Calm m m (X j) ((X j).write m i v).2 (P j) (P j) := by
  by_cases hst : (X j).st = 1
  · unfold TX.write
    rw [if_neg (by simpa using hst)]
    cases hc : m.cell? i with
    | none => exact h.keep
    | some c =>
      refine h.sets hj hst _ ?_ ?_
      · unfold SS.write
        split
        · exact h.nd j hj
        · split
          · exact h.nd j hj
          · show (kys (pt (X j).S.W i v)).Nodup
            rw [kys_pt]
            split
            · exact h.nd j hj
            · rename_i hs
              refine List.nodup_append.2 ⟨h.nd j hj, by simp, fun a ha b hb e => ?_⟩
              rw [List.mem_singleton] at hb
              rw [e, hb] at ha
              exact hs ((gt_some_iff _ _).1 ha)
      · unfold SS.write
        split
        · exact h.ex j hj
        · split
          · exact h.ex j hj
          · show ∀ q ∈ kys (pt (X j).S.W i v), _
            rw [kys_pt]
            split
            · exact h.ex j hj
            · intro q hq
              rcases List.mem_append.1 hq with hq | hq
              · exact h.ex j hj q hq
              · rw [List.mem_singleton] at hq
                rw [hq]
                exact ⟨c, hc⟩
  · unfold TX.write
    rw [if_pos hst]
    exact h.keep
theorem Inv.abort (h : Inv m n X P) (hj : j < n) : ∃ p, Inv ((X j).abort m).2.1 n (upd X j ((X j).abort m).2.2) (upd P j p) ∧ Calm m ((X j).abort m).2.1 (X j) ((X j).abort m).2.2 (P j) p := by
  unfold TX.abort
  split
  · exact ⟨_, h.keep⟩
  · exact ⟨_, h.failed hj⟩
/-- the first step: nothing was written -/
theorem Inv.stay (h : Inv m n X P) (hj : j < n) (hst : (X j).st = 1) (hW : (X j).S.W = []) : (X j).step m = (3, 0, m, { X j with st := 3, left := [], ver := (X j).beg }) ∧ Inv m n (upd X j { X j with st := 3, left := [], ver := (X j).beg }) (upd P j .over) ∧ Calm m m (X j) { X j with st := 3, left := [], ver := (X j).beg } (P j) .over := by
  have hp := h.opn hj hst
  refine ⟨?_, ?_, .inl rfl, fun q => q.elim⟩
  · unfold TX.step
    rw [if_neg (by omega), if_pos hst]
    have e : (X j).ends = [.stay] := by unfold TX.ends; rw [hW]; rfl
    rw [e]
    rfl
  · exact h.same hj (.inl rfl) (h.own j hj) (h.nd j hj) (h.ex j hj) (by rw [hp]; rfl) (by rw [hp]; exact Iff.rfl) (fun q => by rw [hp] at q; exact q.elim)
/-- the first step: something was written: the steps are laid out, and one is taken -/
theorem Inv.opens (h : Inv m n X P) (hj : j < n) (hst : (X j).st = 1) (hW : (X j).S.W ≠ []) : (X j).step m = TX.go m { X j with st := 2, left := (X j).ends } ∧ Inv m n (upd X j { X j with st := 2, left := (X j).ends }) (upd P j (.lock [] (X j).Ws)) ∧ Calm m m (X j) { X j with st := 2, left := (X j).ends } (P j) (.lock [] (X j).Ws) := by
  have hp := h.opn hj hst
  have hok := h.ok j hj
  rw [hp] at hok
  refine ⟨?_, ?_, .inl rfl, fun q => q.elim⟩
  · unfold TX.step
    rw [if_neg (by omega), if_pos hst]
  · have hn : (X j).Ws ≠ [] := fun e => by
      cases hw : (X j).S.W with
      | nil => exact hW hw
      | cons a L =>
        have : a.1 ∈ (X j).Ws := (Ws_mem _ _).2 (by rw [hw]; exact List.mem_cons_self)
        rw [e] at this
        cases this
    refine h.same hj ⟨rfl, rfl, hn, ?_, hok.2.1, hok.2.2⟩ (h.own j hj) (h.nd j hj) (h.ex j hj) (by rw [hp]; rfl) (by rw [hp]; exact Iff.rfl) (fun _ => rfl)
    show (X j).ends = _
    unfold TX.ends
    rw [if_neg (by simpa using hW)]
    rfl
end
end Go.Proofs.Ytafiopjgegmfoaa.T
namespace Go.Proofs.Ytafiopjgegmfoaa.T
open Go.RowKit Go.Proofs.Ytafiopjgegmfoaa.C
structure Hs where
  beg : Int
  ver : Int
  rd : List (Int × Int)
  wr : List (Int × Int)
  done : Bool
/-- committed, with writes -/
def Hs.cm (h : Hs) : Prop := h.done = true ∧ h.wr ≠ []
/-- read so as of version b -/
def AsOf (F : Int → Int → Prop) (V : Int → Int → Int) (b : Int) (g : Int × Int) : Prop := F b g.1 ∧ V b g.1 = g.2
/-- what is true of a transaction and of its history -/
structure Tx1 (m : M) (F : Int → Int → Prop) (V : Int → Int → Int) (x : TX) (p : Phs) (h : Hs) : Prop where
  beg : h.beg = x.beg ∧ x.beg ≤ m.k
  wr : h.wr = x.S.W
  rd : ∀ g ∈ h.rd, ∃ u, gt x.S.R g.1 = some u ∧ u ≤ x.beg ∧ ∀ b, u ≤ b → b ≤ x.beg → AsOf F V b g
  late : p.has → x.beg < x.ver
  look : ∀ d r, p = .look d r → ∀ g ∈ h.rd, g.1 ∈ d → AsOf F V (x.ver - 1) g
  pub : ∀ d r, p = .pub d r → ∀ g ∈ h.rd, AsOf F V (x.ver - 1) g
  done : h.done = true ↔ x.st = 3
/-- what is true of a history -/
structure HsOk (m : M) (F : Int → Int → Prop) (V : Int → Int → Int) (h : Hs) : Prop where
  op : ∀ g ∈ h.rd, AsOf F V h.beg g
  ser : h.cm → 1 ≤ h.ver ∧ h.ver ≤ m.k ∧ ∀ g ∈ h.rd, AsOf F V (h.ver - 1) g
  ro : h.done = true → h.wr = [] → h.ver = h.beg
structure Life (m : M) (n : Nat) (X : Nat → TX) (P : Nat → Phs) (V : Int → Int → Int) (Pb : Int → Int → Int → Prop) (A : List Hs) (cur : Nat → Nat) : Prop where
  inv : Inv m n X P
  gh : Gh m V Pb
  len : ∀ j, j < n → cur j < A.length
  inj : ∀ i j, i < n → j < n → i ≠ j → cur i ≠ cur j
  tx : ∀ j, j < n → ∀ h, A[cur j]? = some h → Tx1 m (Fix m n X P) V (X j) (P j) h
  hs : ∀ (a : Nat) h, A[a]? = some h → HsOk m (Fix m n X P) V h
  uni : ∀ (a b : Nat) h g, A[a]? = some h → A[b]? = some g → a ≠ b → h.cm → g.cm → h.ver ≠ g.ver
  unj : ∀ (a : Nat) h, A[a]? = some h → h.cm → ∀ j, j < n → (P j).has → h.ver ≠ (X j).ver
  pb : ∀ b i v, Pb b i v ↔ (∃ (a : Nat) (h : Hs), A[a]? = some h ∧ h.done = true ∧ h.ver = b ∧ gt h.wr i = some v) ∨ ∃ j, j < n ∧ ∃ d r, P j = .pub d r ∧ (X j).ver = b ∧ i ∈ d ∧ gt (X j).S.W i = some v
section
variable {m m' : M} {n j : Nat} {X : Nat → TX} {P : Nat → Phs} {V V' : Int → Int → Int} {Pb Pb' : Int → Int → Int → Prop} {A : List Hs} {cur : Nat → Nat} {x : TX} {p : Phs} {F F' : Int → Int → Prop} {h h' : Hs}
theorem AsOf.stay {b : Int} {g : Int × Int} (h : AsOf F V b g) (hF : ∀ b i, F b i → F' b i ∧ V' b i = V b i) : AsOf F' V' b g := ⟨(hF b _ h.1).1, by rw [(hF b _ h.1).2]; exact h.2⟩
theorem Tx1.stay (t : Tx1 m F V x p h) (hk : m.k ≤ m'.k) (hF : ∀ b i, F b i → F' b i ∧ V' b i = V b i) : Tx1 m' F' V' x p h :=
  ⟨⟨t.beg.1, Int.le_trans t.beg.2 hk⟩, t.wr, fun g hg => by
    obtain ⟨u, u1, u2, u3⟩ := t.rd g hg
    exact ⟨u, u1, u2, fun b h1 h2 => (u3 b h1 h2).stay hF⟩, t.late, fun d r e g hg hd => (t.look d r e g hg hd).stay hF, fun d r e g hg => (t.pub d r e g hg).stay hF, t.done⟩
theorem HsOk.stay (t : HsOk m F V h) (hk : m.k ≤ m'.k) (hF : ∀ b i, F b i → F' b i ∧ V' b i = V b i) : HsOk m' F' V' h :=
  ⟨fun g hg => (t.op g hg).stay hF, fun c => ⟨(t.ser c).1, Int.le_trans (t.ser c).2.1 hk, fun g hg => ((t.ser c).2.2 g hg).stay hF⟩, t.ro⟩
/-- transaction j takes a step, its history too; all else stays -/
theorem Life.turn (L : Life m n X P V Pb A cur) (hj : j < n) (hi : Inv m' n (upd X j x) (upd P j p)) (hg : Gh m' V' Pb') (hk : m.k ≤ m'.k) (hF : ∀ b i, Fix m n X P b i → Fix m' n (upd X j x) (upd P j p) b i ∧ V' b i = V b i)
    (ht : Tx1 m' (Fix m' n (upd X j x) (upd P j p)) V' x p h') (ho : HsOk m' (Fix m' n (upd X j x) (upd P j p)) V' h')
    (hc : h'.cm → (∀ (a : Nat) g, a ≠ cur j → A[a]? = some g → g.cm → g.ver ≠ h'.ver) ∧ (∀ a, a < n → a ≠ j → (P a).has → h'.ver ≠ (X a).ver) ∧ ¬ p.has)
    (hv : p.has → ∀ (a : Nat) g, a ≠ cur j → A[a]? = some g → g.cm → g.ver ≠ x.ver)
    (hp : ∀ b i v, Pb' b i v ↔ (∃ (a : Nat) (h : Hs), (A.set (cur j) h')[a]? = some h ∧ h.done = true ∧ h.ver = b ∧ gt h.wr i = some v) ∨ ∃ a, a < n ∧ ∃ d r, upd P j p a = .pub d r ∧ (upd X j x a).ver = b ∧ i ∈ d ∧ gt (upd X j x a).S.W i = some v) :
    Life m' n (upd X j x) (upd P j p) V' Pb' (A.set (cur j) h') cur := by
  have hl := L.len j hj
  have gs : ∀ (a : Nat) g, (A.set (cur j) h')[a]? = some g → (a = cur j ∧ g = h') ∨ (a ≠ cur j ∧ A[a]? = some g) := fun a g hg => by
    rw [List.getElem?_set] at hg
    by_cases e : cur j = a
    · rw [if_pos e, if_pos hl] at hg
      injection hg with hg
      exact .inl ⟨e.symm, hg.symm⟩
    · rw [if_neg e] at hg
      exact .inr ⟨fun e2 => e e2.symm, hg⟩
  refine ⟨hi, hg, fun a ha => by rw [List.length_set]; exact L.len a ha, L.inj, fun a ha g hga => ?_, fun a g hga => ?_, fun a b g1 g2 h1 h2 hab c1 c2 => ?_, fun a g hga c b hb hh => ?_, hp⟩
  · by_cases e : a = j
    · subst e
      rw [upd_same, upd_same]
      rcases gs _ _ hga with ⟨_, e⟩ | ⟨e, _⟩
      · rw [e]; exact ht
      · exact absurd rfl e
    · rw [upd_other _ _ e, upd_other _ _ e]
      rcases gs _ _ hga with ⟨e2, _⟩ | ⟨_, e2⟩
      · exact absurd e2 (L.inj a j ha hj e)
      · exact (L.tx a ha g e2).stay hk hF
  · rcases gs _ _ hga with ⟨_, e⟩ | ⟨_, e⟩
    · rw [e]; exact ho
    · exact (L.hs a g e).stay hk hF
  · rcases gs _ _ h1 with ⟨e1, f1⟩ | ⟨e1, f1⟩
    · rcases gs _ _ h2 with ⟨e2, f2⟩ | ⟨e2, f2⟩
      · exact absurd (e1.trans e2.symm) hab
      · rw [f1] at c1 ⊢
        exact fun e => (hc c1).1 b g2 e2 f2 c2 e.symm
    · rcases gs _ _ h2 with ⟨e2, f2⟩ | ⟨e2, f2⟩
      · rw [f2] at c2 ⊢
        exact (hc c2).1 a g1 e1 f1 c1
      · exact L.uni a b g1 g2 f1 f2 hab c1 c2
  · by_cases e : b = j
    · subst e
      rw [upd_same] at hh ⊢
      rcases gs _ _ hga with ⟨_, f⟩ | ⟨e1, f⟩
      · rw [f] at c
        exact absurd hh (hc c).2.2
      · exact hv hh a g e1 f c
    · rw [upd_other _ _ e] at hh ⊢
      rcases gs _ _ hga with ⟨_, f⟩ | ⟨e1, f⟩
      · rw [f] at c ⊢
        exact (hc c).2.1 b hb e hh
      · exact L.unj a g f c b hb hh
end
end Go.Proofs.Ytafiopjgegmfoaa.T
namespace Go.Proofs.Ytafiopjgegmfoaa.T
open Go.RowKit Go.Proofs.Ytafiopjgegmfoaa.C
/-- nothing of it is published -/
def Phs.mute (p : Phs) : Prop := ∀ d r, p = .pub d r → d = []
theorem set_self {α : Type} {A : List α} {k : Nat} {h : α} (e : A[k]? = some h) : A.set k h = A := by
  obtain ⟨hk, e⟩ := List.getElem?_eq_some_iff.1 e
  subst e
  exact List.set_getElem_self hk
section
variable {m m' : M} {n j : Nat} {X : Nat → TX} {P : Nat → Phs} {V V' : Int → Int → Int} {Pb Pb' : Int → Int → Int → Prop} {A : List Hs} {cur : Nat → Nat} {x : TX} {p : Phs} {h h' : Hs}
/-- a call that publishes nothing: neither its history nor its new one is done -/
theorem Life.mute (L : Life m n X P V Pb A cur) (hj : j < n) (hA : A[cur j]? = some h) (h0 : h.done = false) (h1 : h'.done = false) (hq : (P j).mute) (hp : p.mute) (hi : Inv m' n (upd X j x) (upd P j p)) (hg : Gh m' V Pb) (hk : m.k ≤ m'.k) (hF : ∀ b i, Fix m n X P b i → Fix m' n (upd X j x) (upd P j p) b i)
    (ht : Tx1 m' (Fix m' n (upd X j x) (upd P j p)) V x p h') (ho : ∀ g ∈ h'.rd, AsOf (Fix m' n (upd X j x) (upd P j p)) V h'.beg g) (hv : p.has → ∀ (a : Nat) g, A[a]? = some g → g.cm → g.ver ≠ x.ver) : Life m' n (upd X j x) (upd P j p) V Pb (A.set (cur j) h') cur := by
  have nc : ¬ h'.cm := fun c => by have := c.1; rw [h1] at this; cases this
  refine L.turn hj hi hg hk (fun b i hf => ⟨hF b i hf, rfl⟩) ht ⟨ho, fun c => absurd c nc, fun c => by rw [h1] at c; cases c⟩ (fun c => absurd c nc) (fun hh a g _ => hv hh a g) (fun b i v => ?_)
  rw [L.pb]
  have gs : ∀ (a : Nat) (g : Hs), g.done = true → ((A.set (cur j) h')[a]? = some g ↔ A[a]? = some g) := fun a g hg => by
    rw [List.getElem?_set]
    by_cases e : cur j = a
    · rw [if_pos e, if_pos (L.len j hj)]
      subst e
      rw [hA]
      constructor
      · intro e; injection e with e; rw [← e, h1] at hg; cases hg
      · intro e; injection e with e; rw [← e, h0] at hg; cases hg
    · rw [if_neg e]
  refine or_congr ⟨fun ⟨a, g, g1, g2, g3⟩ => ⟨a, g, (gs a g g2).2 g1, g2, g3⟩, fun ⟨a, g, g1, g2, g3⟩ => ⟨a, g, (gs a g g2).1 g1, g2, g3⟩⟩ (exists_congr fun a => and_congr_right fun ha => ?_)
  by_cases e : a = j
  · subst e
    rw [upd_same, upd_same]
    exact ⟨fun ⟨d, r, e, _, hi, _⟩ => (by rw [hq d r e] at hi; cases hi), fun ⟨d, r, e, _, hi, _⟩ => (by rw [hp d r e] at hi; cases hi)⟩
  · rw [upd_other _ _ e, upd_other _ _ e]
theorem Life.undone (L : Life m n X P V Pb A cur) (hj : j < n) (hA : A[cur j]? = some h) (hst : (X j).st ≠ 3) : h.done = false := by
  cases hd : h.done with
  | false => rfl
  | true => exact absurd ((L.tx j hj h hA).done.1 hd) hst
/-- it fails: its history stays -/
theorem Life.failed (L : Life m n X P V Pb A cur) (hj : j < n) (hst : (X j).st ≠ 3) (hpub : (X j).pub = false) : Life (m.rel (X j).own) n (upd X j (X j).fail) (upd P j .over) V Pb A cur := by
  obtain ⟨h, hA⟩ : ∃ h, A[cur j]? = some h := ⟨_, List.getElem?_eq_getElem (L.len j hj)⟩
  have t := L.tx j hj _ hA
  have d0 := L.undone hj hA hst
  obtain ⟨hi, hc⟩ := L.inv.failed hj
  obtain ⟨hg, hF⟩ := L.gh.calm hj hc
  have hF2 := fun b i (hf : Fix m n X P b i) => (⟨hF b i hf, rfl⟩ : _ ∧ V b i = V b i)
  have hmu : (P j).mute := fun d r e => by
    have hok := L.inv.ok j hj
    rw [e] at hok
    have := hok.2.2.2.2
    rw [hpub] at this
    cases d with
    | nil => rfl
    | cons a d => exact absurd (this.2 (by simp)) (by simp)
  have := L.mute (h' := h) hj hA d0 d0 hmu (fun _ _ e => by cases e) hi hg (Int.le_refl _) hF ⟨t.beg, t.wr, fun g hgg => by
    obtain ⟨u, u1, u2, u3⟩ := t.rd g hgg
    exact ⟨u, u1, u2, fun b h1 h2 => (u3 b h1 h2).stay hF2⟩, fun q => q.elim, fun _ _ e => (by cases e), fun _ _ e => (by cases e), ⟨fun e => (by rw [d0] at e; cases e), fun (e : (4 : Int) = 3) => by omega⟩⟩ (fun g hgg => ((L.hs _ _ hA).op g hgg).stay hF2) (fun q => q.elim)
  rw [set_self hA] at this
  exact this
theorem Life.abort (L : Life m n X P V Pb A cur) (hj : j < n) : ∃ p, Life ((X j).abort m).2.1 n (upd X j ((X j).abort m).2.2) (upd P j p) V Pb A cur := by
  unfold TX.abort
  split
  · exact ⟨P j, by rw [upd_id, upd_id]; exact L⟩
  · rename_i hn
    exact ⟨.over, L.failed hj (fun e => hn (.inl e)) (by cases hb : (X j).pub with | false => rfl | true => exact absurd (.inr (.inr hb)) hn)⟩
/-- other sets and another history: one that is open -/
theorem Life.sets (L : Life m n X P V Pb A cur) (hj : j < n) (hst : (X j).st = 1) (hA : A[cur j]? = some h) (S : SS Int) (hn : (kys S.W).Nodup) (hx : ∀ i ∈ kys S.W, ∃ c, m.cell? i = some c) (h1 : h'.done = false) (hb : h'.beg = h.beg) (hw : h'.wr = S.W) (hr : ∀ g ∈ h'.rd, ∃ u, gt S.R g.1 = some u ∧ u ≤ (X j).beg ∧ ∀ b, u ≤ b → b ≤ (X j).beg → AsOf (Fix m n X P) V b g) : Life m n (upd X j { X j with S := S }) (upd P j (P j)) V Pb (A.set (cur j) h') cur := by
  have t := L.tx j hj _ hA
  have d0 := L.undone hj hA (by omega)
  have hp := L.inv.opn hj hst
  obtain ⟨hi, hc⟩ := L.inv.sets hj hst S hn hx
  obtain ⟨hg, hF⟩ := L.gh.calm hj hc
  have hF2 := fun b i (hf : Fix m n X P b i) => (⟨hF b i hf, rfl⟩ : _ ∧ V b i = V b i)
  have hmu : (P j).mute := fun d r e => by rw [hp] at e; cases e
  have hnh : ¬ (P j).has := by rw [hp]; exact fun e => e
  have hr2 : ∀ g ∈ h'.rd, ∃ u, gt S.R g.1 = some u ∧ u ≤ (X j).beg ∧ ∀ b, u ≤ b → b ≤ (X j).beg → AsOf (Fix m n (upd X j { X j with S := S }) (upd P j (P j))) V b g := fun g hgg => by
    obtain ⟨u, u1, u2, u3⟩ := hr g hgg
    exact ⟨u, u1, u2, fun b h1 h2 => (u3 b h1 h2).stay hF2⟩
  refine L.mute hj hA d0 h1 hmu hmu hi hg (Int.le_refl _) hF ⟨⟨hb.trans t.beg.1, t.beg.2⟩, hw, hr2, fun q => absurd q hnh, fun _ _ e => (by rw [hp] at e; cases e), fun _ _ e => (by rw [hp] at e; cases e), ⟨fun e => (by rw [h1] at e; cases e), fun e => by have e : (X j).st = 3 := e; omega⟩⟩ (fun g hgg => ?_) (fun q => absurd q hnh)
  obtain ⟨u, _, u2, u3⟩ := hr2 g hgg
  rw [hb, t.beg.1]
  exact u3 _ u2 (Int.le_refl _)
/-- a cell is read: one that is nobody's, no younger than the beginning -/
theorem Life.read (L : Life m n X P V Pb A cur) (hj : j < n) (hst : (X j).st = 1) (hA : A[cur j]? = some h) {i : Int} {c : Cl} (hc : m.cell? i = some c) (hb : ¬ (X j).bad i c) (hr : ((X j).S.read i c.ver).1 = 0) : Life m n (upd X j { X j with S := ((X j).S.read i c.ver).2 }) (upd P j (P j)) V Pb (A.set (cur j) { h with rd := h.rd ++ [(i, iv c.v)] }) cur := by
  have t := L.tx j hj _ hA
  have d0 := L.undone hj hA (by omega)
  have o0 : c.own = 0 := Classical.byContradiction fun e => hb (.inl e)
  have v0 : c.ver ≤ (X j).beg := Int.not_lt.1 fun e => hb (.inr (.inl e))
  have old : ∀ q u, gt (X j).S.R q = some u → gt ((X j).S.read i c.ver).2.R q = some u := fun q u hu => by
    unfold SS.read
    repeat' split
    all_goals first | exact hu | skip
    show gt ((X j).S.R ++ [(i, c.ver)]) q = some u
    unfold gt at hu ⊢
    simp only [List.find?_append, Option.map_eq_some_iff] at hu ⊢
    obtain ⟨a, a1, a2⟩ := hu
    exact ⟨a, by rw [a1]; rfl, a2⟩
  have new : gt ((X j).S.read i c.ver).2.R i = some c.ver := by
    revert hr
    unfold SS.read
    split
    · simp
    · cases hg : gt (X j).S.R i with
      | some u =>
        dsimp only
        by_cases e : u = c.ver
        · rw [if_pos e]; intro _; rw [hg, e]
        · rw [if_neg e]; simp
      | none =>
        dsimp only
        split
        · simp
        · intro _
          rw [← pt_none _ _ _ hg]
          rw [gt_pt, if_pos rfl]
  refine L.sets hj hst hA _ (by rw [read_W]; exact L.inv.nd j hj) (by rw [read_W]; exact L.inv.ex j hj) d0 rfl (by rw [read_W]; exact t.wr) (fun g hg => ?_)
  rcases List.mem_append.1 hg with hg | hg
  · obtain ⟨u, u1, u2, u3⟩ := t.rd g hg
    exact ⟨u, old _ _ u1, u2, u3⟩
  · rw [List.mem_singleton] at hg
    subst hg
    refine ⟨c.ver, new, v0, fun b h1 h2 => ⟨L.inv.free hc o0 (Int.le_trans h2 t.beg.2), ?_⟩⟩
    show V b i = iv c.v
    rw [L.gh.val i c hc b h1]
    rfl
end
end Go.Proofs.Ytafiopjgegmfoaa.T
namespace Go.Proofs.Ytafiopjgegmfoaa.T
open Go.RowKit Go.Proofs.Ytafiopjgegmfoaa.C
section
variable {m m' : M} {n j : Nat} {X : Nat → TX} {P : Nat → Phs} {V V' : Int → Int → Int} {Pb Pb' : Int → Int → Int → Prop} {A : List Hs} {cur : Nat → Nat} {x x1 : TX} {p q : Phs} {h h' : Hs} {F F' : Int → Int → Prop}
theorem Life.write (L : Life m n X P V Pb A cur) (hj : j < n) (hst : (X j).st = 1) (hA : A[cur j]? = some h) {i v : Int} (hc : ∃ c, m.cell? i = some c) (hw : ((X j).S.write i v).1 = 0) : Life m n (upd X j { X j with S := ((X j).S.write i v).2 }) (upd P j (P j)) V Pb (A.set (cur j) { h with wr := pt h.wr i v }) cur := by
  have t := L.tx j hj _ hA
  have d0 := L.undone hj hA (by omega)
  obtain ⟨c, hc⟩ := hc
  have e : (X j).write m i v = (((X j).S.write i v).1, { X j with S := ((X j).S.write i v).2 }) := by
    unfold TX.write
    rw [if_neg (by simpa using hst), hc]
  have hi := (L.inv.write hj i v).1
  rw [e] at hi
  have nd := hi.nd j hj
  have ex := hi.ex j hj
  rw [upd_same] at nd ex
  have es : ((X j).S.write i v).2 = { (X j).S with W := pt (X j).S.W i v } := by
    revert hw
    unfold SS.write
    split
    · simp
    · split
      · simp
      · exact fun _ => rfl
  refine L.sets hj hst hA _ nd ex d0 rfl ?_ (fun g hg => ?_)
  · rw [es]
    show pt h.wr i v = _
    rw [t.wr]
  · rw [es]
    exact t.rd g hg
theorem Life.begin (L : Life m n X P V Pb A cur) (hj : j < n) (hp : P j = .over) : Life m n (upd X j (X0 ((j : Int) + 1) m.k)) (upd P j .opn) V Pb (A ++ [⟨m.k, 0, [], [], false⟩]) (upd cur j A.length) := by
  obtain ⟨hi, hc⟩ := L.inv.begin hj hp m.k
  obtain ⟨hg, hF⟩ := L.gh.calm hj hc
  have hF2 := fun b i (hf : Fix m n X P b i) => (⟨hF b i hf, rfl⟩ : _ ∧ V b i = V b i)
  have gs : ∀ (a : Nat) g, (A ++ [(⟨m.k, 0, [], [], false⟩ : Hs)])[a]? = some g → (a = A.length ∧ g = ⟨m.k, 0, [], [], false⟩) ∨ (a < A.length ∧ A[a]? = some g) := fun a g hg => by
    by_cases e : a < A.length
    · rw [List.getElem?_append_left e] at hg
      exact .inr ⟨e, hg⟩
    · rw [List.getElem?_append_right (by omega)] at hg
      by_cases e2 : a = A.length
      · subst e2
        rw [Nat.sub_self] at hg
        injection hg with hg
        exact .inl ⟨rfl, hg.symm⟩
      · obtain ⟨hl, _⟩ := List.getElem?_eq_some_iff.1 hg
        simp at hl
        omega
  refine ⟨hi, hg, fun a ha => ?_, fun a b ha hb hab => ?_, fun a ha g hga => ?_, fun a g hga => ?_, fun a b g1 g2 h1 h2 hab c1 c2 => ?_, fun a g hga c b hb hh => ?_, fun b i v => ?_⟩
  · rw [List.length_append, List.length_singleton]
    by_cases e : a = j
    · subst e; rw [upd_same]; omega
    · rw [upd_other _ _ e]; have := L.len a ha; omega
  · by_cases e : a = j
    · subst e
      rw [upd_same, upd_other _ _ (fun e => hab e.symm)]
      have := L.len b hb
      omega
    · rw [upd_other _ _ e]
      have := L.len a ha
      by_cases e2 : b = j
      · subst e2; rw [upd_same]; omega
      · rw [upd_other _ _ e2]; exact L.inj a b ha hb hab
  · by_cases e : a = j
    · subst e
      rw [upd_same] at hga
      rw [upd_same, upd_same]
      rcases gs _ _ hga with ⟨_, f⟩ | ⟨f, _⟩
      · subst f
        exact ⟨⟨rfl, Int.le_refl _⟩, rfl, fun g hg => (by cases hg), fun q => q.elim, fun _ _ e => (by cases e), fun _ _ e => (by cases e), ⟨fun e => (by cases e), fun (e : (1 : Int) = 3) => by omega⟩⟩
      · omega
    · rw [upd_other _ _ e] at hga
      rw [upd_other _ _ e, upd_other _ _ e]
      rcases gs _ _ hga with ⟨f, _⟩ | ⟨_, f⟩
      · have := L.len a ha; omega
      · exact (L.tx a ha g f).stay (Int.le_refl _) hF2
  · rcases gs _ _ hga with ⟨_, f⟩ | ⟨_, f⟩
    · subst f
      exact ⟨fun g hg => (by cases hg), fun c => (by cases c.1), fun c => (by cases c)⟩
    · exact (L.hs a g f).stay (Int.le_refl _) hF2
  · rcases gs _ _ h1 with ⟨_, f⟩ | ⟨_, f1⟩
    · subst f; cases c1.1
    · rcases gs _ _ h2 with ⟨_, f⟩ | ⟨_, f2⟩
      · subst f; cases c2.1
      · exact L.uni a b g1 g2 f1 f2 hab c1 c2
  · rcases gs _ _ hga with ⟨_, f⟩ | ⟨_, f⟩
    · subst f; cases c.1
    · by_cases e : b = j
      · subst e; rw [upd_same] at hh; exact hh.elim
      · rw [upd_other _ _ e] at hh ⊢
        exact L.unj a g f c b hb hh
  · rw [L.pb]
    refine or_congr ⟨fun ⟨a, g, g1, g2⟩ => ⟨a, g, ?_, g2⟩, fun ⟨a, g, g1, g2⟩ => ?_⟩ (exists_congr fun a => and_congr_right fun ha => ?_)
    · rw [List.getElem?_append_left (List.getElem?_eq_some_iff.1 g1).1]; exact g1
    · rcases gs _ _ g1 with ⟨_, f⟩ | ⟨_, f⟩
      · subst f; cases g2.1
      · exact ⟨a, g, f, g2⟩
    · by_cases e : a = j
      · subst e
        rw [upd_same, upd_same, hp]
        exact ⟨fun ⟨_, _, e, _⟩ => (by cases e), fun ⟨_, _, e, _⟩ => (by cases e)⟩
      · rw [upd_other _ _ e, upd_other _ _ e]
/-- the same transaction, a phase on -/
theorem Tx1.move (t : Tx1 m F V x q h) (hk : Kin x x1) (hm : m.k ≤ m'.k) (hF : ∀ b i, F b i → F' b i ∧ V' b i = V b i) (late : p.has → x1.beg < x1.ver) (look : ∀ d r, p = .look d r → ∀ g ∈ h.rd, g.1 ∈ d → AsOf F' V' (x1.ver - 1) g) (pub : ∀ d r, p = .pub d r → ∀ g ∈ h.rd, AsOf F' V' (x1.ver - 1) g) (done : h.done = true ↔ x1.st = 3) : Tx1 m' F' V' x1 p h :=
  ⟨⟨by rw [hk.beg]; exact t.beg.1, by rw [hk.beg]; exact Int.le_trans t.beg.2 hm⟩, by rw [hk.S]; exact t.wr, fun g hg => by
    obtain ⟨u, u1, u2, u3⟩ := t.rd g hg
    exact ⟨u, by rw [hk.S]; exact u1, by rw [hk.beg]; exact u2, fun b h1 h2 => (u3 b h1 (by rw [hk.beg] at h2; exact h2)).stay hF⟩, late, look, pub, done⟩
theorem Tx1.inRs (t : Tx1 m F V x q h) {g : Int × Int} (hg : g ∈ h.rd) : g.1 ∈ x.Rs := by
  obtain ⟨u, u1, _⟩ := t.rd g hg
  exact (srt_mem _ _).2 ((gt_some_iff _ _).2 (by rw [u1]; rfl))
end
end Go.Proofs.Ytafiopjgegmfoaa.T
namespace Go.Proofs.Ytafiopjgegmfoaa.T
open Go.RowKit Go.Proofs.Ytafiopjgegmfoaa.C
section
variable {m m' : M} {n j : Nat} {X : Nat → TX} {P : Nat → Phs} {V V' : Int → Int → Int} {Pb Pb' : Int → Int → Int → Prop} {A : List Hs} {cur : Nat → Nat} {x x1 : TX} {p q : Phs} {h h' : Hs} {F F' : Int → Int → Prop}
/-- a step that publishes nothing -/
theorem Life.didMute (L : Life m n X P V Pb A cur) (hj : j < n) (hst : (X j).st = 2) (hA : A[cur j]? = some h) {R : Int × Int × M × TX} (hd : Did m (X j) (P j) R p) (hi : Inv R.2.2.1 n (upd X j R.2.2.2) (upd P j p)) (hm : ∀ d r, P j ≠ .pub d r) : Life R.2.2.1 n (upd X j R.2.2.2) (upd P j p) V Pb A cur ∧ R.1 ≠ 3 := by
  have t := L.tx j hj _ hA
  have d0 := L.undone hj hA (by omega)
  obtain ⟨hg, hF⟩ := L.gh.did L.inv hj hd
  have eV : nV (X j) V (P j) = V := by
    unfold nV
    split
    · rename_i e; exact absurd e (hm _ _)
    · rfl
  have eP : nP (X j) Pb (P j) = Pb := by
    unfold nP
    split
    · rename_i e; exact absurd e (hm _ _)
    · rfl
  rw [eV, eP] at hg
  rw [eV] at hF
  have hq : (P j).mute := fun d r e => absurd e (hm d r)
  have hF1 := fun b i (hf : Fix m n X P b i) => (hF b i hf).1
  have unj := fun (hh : (P j).has) (a : Nat) g hga c => L.unj a g hga c j hj hh
  have ser := fun (a : Nat) g hga c => ((L.hs a g hga).ser c).2.1
  have late := t.late
  have lk := t.look
  have op := fun g hgg => ((L.hs _ _ hA).op g hgg).stay hF
  have bel := fun (i : Int) (c : Cl) hc ho hh => L.inv.below hj (i := i) (c := c) hc ho hh
  have hok := L.inv.ok j hj
  have key : ∀ {p' : Phs} {m' : M} {x1 : TX}, Inv m' n (upd X j x1) (upd P j p') → Gh m' V Pb → m.k ≤ m'.k → (∀ b i, Fix m n X P b i → Fix m' n (upd X j x1) (upd P j p') b i ∧ V b i = V b i) → p'.mute → Kin (X j) x1 → (p'.has → x1.beg < x1.ver) → (∀ d r, p' = .look d r → ∀ g ∈ h.rd, g.1 ∈ d → AsOf (Fix m' n (upd X j x1) (upd P j p')) V (x1.ver - 1) g) → (∀ d r, p' = .pub d r → ∀ g ∈ h.rd, AsOf (Fix m' n (upd X j x1) (upd P j p')) V (x1.ver - 1) g) → (p'.has → ∀ (a : Nat) g, A[a]? = some g → g.cm → g.ver ≠ x1.ver) → x1.st ≠ 3 → Life m' n (upd X j x1) (upd P j p') V Pb A cur := fun hi hg hk hF hp kin la lo pu un hs => by
    have := L.mute (h' := h) hj hA d0 d0 hq hp hi hg hk (fun b i hf => (hF b i hf).1) (t.move kin hk hF la lo pu ⟨fun e => (by rw [d0] at e; cases e), fun e => absurd e hs⟩) (fun g hgg => ((L.hs _ _ hA).op g hgg).stay hF) un
    rw [set_self hA] at this
    exact this
  clear hF1 op
  have st1 := hi.ok j hj
  rw [upd_same, upd_same] at st1
  generalize hqq : P j = qq at hd hm unj late lk bel hok
  cases hd with
  | fail he hk hs hne => exact ⟨key hi hg (Int.le_refl _) hF (fun _ _ e => by cases e) hk (fun q => q.elim) (fun _ _ e => by cases e) (fun _ _ e => by cases e) (fun q => q.elim) (by rw [hs]; decide), by show (4 : Int) ≠ 3; decide⟩
  | lock hc ho hk hv => exact ⟨key hi hg (Int.le_refl _) hF (fun _ _ e => by cases e) hk (fun q => q.elim) (fun _ _ e => by cases e) (fun _ _ e => by cases e) (fun q => q.elim) (by have := st1.1; rw [this]; decide), by show (2 : Int) ≠ 3; decide⟩
  | @adv d q' x1 hk hv hp =>
    have s3 : x1.st ≠ 3 := by
      rcases hp with e2 | ⟨_, e2⟩ <;> rw [e2] at st1 <;> (have := st1.1; rw [this]; decide)
    refine ⟨key hi hg (show m.k ≤ m.k + 1 by omega) hF ?_ hk (fun _ => ?_) ?_ ?_ (fun _ a g hga c => ?_) s3, by show (2 : Int) ≠ 3; decide⟩
    · intro d r e
      rcases hp with e2 | ⟨_, e2⟩ <;> rw [e2] at e <;> cases e
      rfl
    · have := t.beg.2
      have e := hk.beg
      show x1.beg < x1.ver
      omega
    · intro d r e g hgg hd
      rcases hp with e2 | ⟨_, e2⟩ <;> rw [e2] at e <;> cases e
      cases hd
    · intro d r e g hgg
      have := t.inRs hgg
      rcases hp with e2 | ⟨e3, e2⟩
      · rw [e2] at e; cases e
      · rw [e3] at this; cases this
    · have := ser a g hga c
      show g.ver ≠ x1.ver
      omega
  | @look d r i c q' x1 hc ho hs hk hv hp =>
    have s3 : x1.st ≠ 3 := by
      rcases hp with ⟨_, e2⟩ | ⟨_, e2⟩ <;> rw [e2] at st1 <;> (have := st1.1; rw [this]; decide)
    have hown := L.inv.own j hj
    have one : ∀ g ∈ h.rd, g.1 ∈ d ++ [i] → AsOf (Fix m n (upd X j x1) (upd P j p)) V (x1.ver - 1) g := fun g hgg hd => by
      refine AsOf.stay ?_ hF
      rw [hv]
      rcases List.mem_append.1 hd with hd | hd
      · exact lk d (i :: r) rfl g hgg hd
      · rw [List.mem_singleton] at hd
        obtain ⟨u, u1, u2, u3⟩ := t.rd g hgg
        have la := late trivial
        have ec : u = c.ver := by
          unfold TX.oth at hs
          rw [← hd, u1] at hs
          simpa using hs
        refine ⟨by rw [hd]; exact bel i c hc (by rw [hown] at ho; exact ho) trivial, ?_⟩
        have a1 := (u3 u (Int.le_refl _) u2).2
        have a2 := L.gh.val i c hc u (by omega)
        have a3 := L.gh.val i c hc ((X j).ver - 1) (by omega)
        rw [a2] at a3
        injection a3 with _ a3
        rw [hd] at a1 ⊢
        rw [← a3]
        exact a1
    refine ⟨key hi hg (Int.le_refl _) hF ?_ hk (fun _ => ?_) ?_ ?_ (fun _ a g hga c => ?_) s3, by show (2 : Int) ≠ 3; decide⟩
    · intro d r e
      rcases hp with ⟨_, e2⟩ | ⟨_, e2⟩ <;> rw [e2] at e <;> cases e
      rfl
    · rw [hk.beg, hv]; exact late trivial
    · intro d2 r2 e g hgg hd
      rcases hp with ⟨_, e2⟩ | ⟨_, e2⟩ <;> rw [e2] at e <;> cases e
      exact one g hgg hd
    · intro d2 r2 e g hgg
      rcases hp with ⟨_, e2⟩ | ⟨e3, e2⟩
      · rw [e2] at e; cases e
      · refine one g hgg ?_
        have := t.inRs hgg
        rw [hok.2.1, e3] at this
        exact this
    · rw [hv]; exact unj trivial a g hga c
  | pub => exact absurd rfl (hm _ _)
end
end Go.Proofs.Ytafiopjgegmfoaa.T
namespace Go.Proofs.Ytafiopjgegmfoaa.T
open Go.RowKit Go.Proofs.Ytafiopjgegmfoaa.C
section
variable {m m' : M} {n j : Nat} {X : Nat → TX} {P : Nat → Phs} {V V' : Int → Int → Int} {Pb Pb' : Int → Int → Int → Prop} {A : List Hs} {cur : Nat → Nat} {x x1 : TX} {p q : Phs} {h h' : Hs} {F F' : Int → Int → Prop}
/-- other histories and other transactions tell what they told -/
theorem Life.rest (L : Life m n X P V Pb A cur) (hj : j < n) (hA : A[cur j]? = some h) (h0 : h.done = false) (b i v : Int) : Pb b i v ↔ ((∃ (a : Nat) (g : Hs), a ≠ cur j ∧ A[a]? = some g ∧ g.done = true ∧ g.ver = b ∧ gt g.wr i = some v) ∨ ∃ a, a < n ∧ a ≠ j ∧ ∃ d r, P a = .pub d r ∧ (X a).ver = b ∧ i ∈ d ∧ gt (X a).S.W i = some v) ∨ ∃ d r, P j = .pub d r ∧ (X j).ver = b ∧ i ∈ d ∧ gt (X j).S.W i = some v := by
  rw [L.pb]
  constructor
  · rintro (⟨a, g, g1, g2⟩ | ⟨a, ha, g⟩)
    · refine .inl (.inl ⟨a, g, fun e => ?_, g1, g2⟩)
      rw [e, hA] at g1
      injection g1 with g1
      rw [← g1, h0] at g2
      cases g2.1
    · by_cases e : a = j
      · subst e; exact .inr g
      · exact .inl (.inr ⟨a, ha, e, g⟩)
  · rintro ((⟨a, g, _, g1⟩ | ⟨a, ha, _, g⟩) | g)
    · exact .inl ⟨a, g, g1⟩
    · exact .inr ⟨a, ha, g⟩
    · exact .inr ⟨j, hj, g⟩
/-- .. and behind a turn -/
theorem turned (hl : cur j < A.length) (hj : j < n) (b i v : Int) : ((∃ (a : Nat) (g : Hs), (A.set (cur j) h')[a]? = some g ∧ g.done = true ∧ g.ver = b ∧ gt g.wr i = some v) ∨ ∃ a, a < n ∧ ∃ d r, upd P j p a = .pub d r ∧ (upd X j x a).ver = b ∧ i ∈ d ∧ gt (upd X j x a).S.W i = some v) ↔ ((∃ (a : Nat) (g : Hs), a ≠ cur j ∧ A[a]? = some g ∧ g.done = true ∧ g.ver = b ∧ gt g.wr i = some v) ∨ ∃ a, a < n ∧ a ≠ j ∧ ∃ d r, P a = .pub d r ∧ (X a).ver = b ∧ i ∈ d ∧ gt (X a).S.W i = some v) ∨ (h'.done = true ∧ h'.ver = b ∧ gt h'.wr i = some v) ∨ ∃ d r, p = .pub d r ∧ x.ver = b ∧ i ∈ d ∧ gt x.S.W i = some v := by
  constructor
  · rintro (⟨a, g, g1, g2⟩ | ⟨a, ha, g⟩)
    · rw [List.getElem?_set] at g1
      by_cases e : cur j = a
      · rw [if_pos e, if_pos hl] at g1
        injection g1 with g1
        rw [← g1] at g2
        exact .inr (.inl g2)
      · rw [if_neg e] at g1
        exact .inl (.inl ⟨a, g, fun e2 => e e2.symm, g1, g2⟩)
    · by_cases e : a = j
      · subst e
        rw [upd_same, upd_same] at g
        exact .inr (.inr g)
      · rw [upd_other _ _ e, upd_other _ _ e] at g
        exact .inl (.inr ⟨a, ha, e, g⟩)
  · rintro ((⟨a, g, e, g1, g2⟩ | ⟨a, ha, e, g⟩) | g | g)
    · exact .inl ⟨a, g, by rw [List.getElem?_set, if_neg (fun e2 => e e2.symm)]; exact g1, g2⟩
    · exact .inr ⟨a, ha, by rw [upd_other _ _ e, upd_other _ _ e]; exact g⟩
    · exact .inl ⟨cur j, h', by rw [List.getElem?_set, if_pos rfl, if_pos hl], g⟩
    · exact .inr ⟨j, hj, by rw [upd_same, upd_same]; exact g⟩
theorem Life.stay (L : Life m n X P V Pb A cur) (hj : j < n) (hst : (X j).st = 1) (hA : A[cur j]? = some h) (hW : (X j).S.W = []) : Life m n (upd X j { X j with st := 3, left := [], ver := (X j).beg }) (upd P j .over) V Pb (A.set (cur j) { h with done := true, ver := (X j).beg }) cur := by
  have t := L.tx j hj _ hA
  have d0 := L.undone hj hA (by omega)
  have hp := L.inv.opn hj hst
  obtain ⟨_, hi, hc⟩ := L.inv.stay hj hst hW
  obtain ⟨hg, hF⟩ := L.gh.calm hj hc
  have hF2 := fun b i (hf : Fix m n X P b i) => (⟨hF b i hf, rfl⟩ : _ ∧ V b i = V b i)
  have hw : h.wr = [] := t.wr.trans hW
  have nc : ¬ ({ h with done := true, ver := (X j).beg } : Hs).cm := fun c => c.2 hw
  refine L.turn hj hi hg (Int.le_refl _) hF2 ⟨t.beg, t.wr, fun g hgg => ?_, fun q => q.elim, fun _ _ e => (by cases e), fun _ _ e => (by cases e), ⟨fun _ => rfl, fun _ => rfl⟩⟩ ⟨fun g hgg => ((L.hs _ _ hA).op g hgg).stay hF2, fun c => absurd c nc, fun _ _ => t.beg.1.symm⟩ (fun c => absurd c nc) (fun q => q.elim) (fun b i v => ?_)
  · obtain ⟨u, u1, u2, u3⟩ := t.rd g hgg
    exact ⟨u, u1, u2, fun b h1 h2 => (u3 b h1 h2).stay hF2⟩
  · rw [turned (L.len j hj) hj, L.rest hj hA d0]
    refine or_congr Iff.rfl ⟨fun ⟨d, r, e, _⟩ => (by rw [hp] at e; cases e), fun e => ?_⟩
    rcases e with ⟨_, _, e⟩ | ⟨_, _, e, _⟩
    · rw [show ({ h with done := true, ver := (X j).beg } : Hs).wr = [] from hw] at e
      cases e
    · cases e
theorem Life.didPub (L : Life m n X P V Pb A cur) (hj : j < n) (hst : (X j).st = 2) (hA : A[cur j]? = some h) {R : Int × Int × M × TX} (hd : Did m (X j) (P j) R p) (hi : Inv R.2.2.1 n (upd X j R.2.2.2) (upd P j p)) {d r : List Int} {i : Int} (hpj : P j = .pub d (i :: r)) :
    Life R.2.2.1 n (upd X j R.2.2.2) (upd P j p) (nV (X j) V (P j)) (nP (X j) Pb (P j)) (A.set (cur j) (if R.1 = 3 then { h with done := true, ver := (X j).ver } else h)) cur := by
  have t := L.tx j hj _ hA
  have d0 := L.undone hj hA (by omega)
  obtain ⟨hg, hF⟩ := L.gh.did L.inv hj hd
  have rest := L.rest hj hA d0
  have st1 := hi.ok j hj
  rw [upd_same, upd_same] at st1
  have hok := L.inv.ok j hj
  have hv := L.inv.ver j hj
  have la := t.late
  have pu := t.pub
  have hun := fun a ha (e : a ≠ j) => L.inv.uni a j ha hj e
  have unj := fun (hh : (P j).has) (a : Nat) g hga c => L.unj a g hga c j hj hh
  have hW : ∀ w, w ∈ (X j).Ws → gt (X j).S.W w = some ((gt (X j).S.W w).getD 0) := fun w hw => by
    have := (gt_some_iff _ _).1 ((Ws_mem _ _).1 hw)
    cases hh : gt (X j).S.W w with
    | none => rw [hh] at this; cases this
    | some y => rfl
  generalize hVV : nV (X j) V (P j) = V1 at *
  generalize hPP : nP (X j) Pb (P j) = P1 at *
  rw [hpj] at hok hv la pu unj hun rest hPP hd
  have eP : ∀ b q v, P1 b q v ↔ Pb b q v ∨ (b = (X j).ver ∧ q = i ∧ v = (gt (X j).S.W i).getD 0) := fun b q v => by rw [← hPP]; exact Iff.rfl
  obtain ⟨_, oW, _, _, _⟩ := hok
  have hiW : i ∈ (X j).Ws := by rw [oW]; simp
  cases hd with
  | fail _ _ _ hne => exact absurd rfl (hne _ _)
  | @pub _ _ _ st c q' x1 hc ho hcv hk hvr hp =>
    rcases hp with ⟨hr, rfl, rfl⟩ | ⟨rfl, rfl, hs3, rfl⟩
    · rw [if_neg (by show ¬ (2 : Int) = 3; decide)]
      have nc : ¬ h.cm := fun c => by have := c.1; rw [d0] at this; cases this
      refine L.turn hj hi hg (Int.le_refl _) hF (t.move hk (Int.le_refl _) hF (fun _ => by rw [hk.beg, hvr]; exact la trivial) (fun _ _ e => by cases e) (fun d2 r2 e g hgg => ?_) ⟨fun e => (by rw [d0] at e; cases e), fun e => by have := st1.1; rw [this] at e; omega⟩) ((L.hs _ _ hA).stay (Int.le_refl _) hF) (fun c => absurd c nc) (fun _ a g _ hga c => by rw [hvr]; exact unj trivial a g hga c) (fun b w v => ?_)
      · rw [hvr]
        exact (pu d (i :: r) rfl g hgg).stay hF
      · rw [turned (L.len j hj) hj, eP, rest, or_assoc]
        refine or_congr Iff.rfl ⟨fun e => ?_, fun e => ?_⟩
        · rcases e with ⟨d2, r2, e, e1, e2, e3⟩ | ⟨e1, e2, e3⟩
          · cases e
            exact .inr ⟨_, _, rfl, by rw [hvr]; exact e1, List.mem_append_left _ e2, by rw [hk.S]; exact e3⟩
          · exact .inr ⟨_, _, rfl, by rw [hvr]; exact e1.symm, by rw [e2]; simp, by rw [hk.S, e2, e3]; exact hW i hiW⟩
        · rcases e with ⟨e, _⟩ | ⟨d2, r2, e, e1, e2, e3⟩
          · rw [d0] at e; cases e
          · cases e
            rw [hvr] at e1
            rw [hk.S] at e3
            rcases List.mem_append.1 e2 with e2 | e2
            · exact .inl ⟨_, _, rfl, e1, e2, e3⟩
            · rw [List.mem_singleton] at e2
              rw [e2] at e3
              exact .inr ⟨e1.symm, e2, by rw [e3]; rfl⟩
    · rw [if_pos rfl]
      have hwn : h.wr ≠ [] := fun e => by
        rw [t.wr] at e
        have := (Ws_mem _ _).1 hiW
        rw [e] at this
        cases this
      have hvv := hv trivial
      have rd := fun g (hgg : g ∈ h.rd) => (pu d [i] rfl g hgg).stay hF
      refine L.turn hj hi hg (Int.le_refl _) hF ⟨⟨by rw [hk.beg]; exact t.beg.1, by rw [hk.beg]; exact t.beg.2⟩, by rw [hk.S]; exact t.wr, fun g hgg => ?_, fun q => q.elim, fun _ _ e => (by cases e), fun _ _ e => (by cases e), ⟨fun _ => hs3, fun _ => rfl⟩⟩ ⟨fun g hgg => ((L.hs _ _ hA).op g hgg).stay hF, fun _ => ⟨hvv.1, hvv.2, rd⟩, fun _ e => absurd e hwn⟩ (fun _ => ⟨fun a g _ hga c => unj trivial a g hga c, fun a ha e hh e2 => hun a ha e hh trivial e2.symm, fun q => q⟩) (fun q => q.elim) (fun b w v => ?_)
      · obtain ⟨u, u1, u2, u3⟩ := t.rd g hgg
        exact ⟨u, by rw [hk.S]; exact u1, by rw [hk.beg]; exact u2, fun b h1 h2 => (u3 b h1 (by rw [hk.beg] at h2; exact h2)).stay hF⟩
      · rw [turned (L.len j hj) hj, eP, rest, or_assoc]
        refine or_congr Iff.rfl ⟨fun e => .inl ?_, fun e => ?_⟩
        · rcases e with ⟨d2, r2, e, e1, e2, e3⟩ | ⟨e1, e2, e3⟩
          · cases e
            exact ⟨rfl, e1, by show gt h.wr w = _; rw [t.wr]; exact e3⟩
          · exact ⟨rfl, e1.symm, by show gt h.wr w = _; rw [t.wr, e2, e3]; exact hW i hiW⟩
        · rcases e with ⟨_, e1, e3⟩ | ⟨_, _, e, _⟩
          · have e3 : gt h.wr w = some v := e3
            rw [t.wr] at e3
            have : w ∈ (X j).Ws := (Ws_mem _ _).2 ((gt_some_iff _ _).2 (by rw [e3]; rfl))
            rw [oW] at this
            rcases List.mem_append.1 this with e2 | e2
            · exact .inl ⟨_, _, rfl, e1, e2, e3⟩
            · rw [List.mem_singleton] at e2
              rw [e2] at e3
              exact .inr ⟨e1.symm, e2, by rw [e3]; rfl⟩
          · cases e
end
end Go.Proofs.Ytafiopjgegmfoaa.T
namespace Go.Proofs.Ytafiopjgegmfoaa.T
open Go.RowKit Go.Proofs.Ytafiopjgegmfoaa.C
section
variable {m m' : M} {n j : Nat} {X : Nat → TX} {P : Nat → Phs} {V V' : Int → Int → Int} {Pb Pb' : Int → Int → Int → Prop} {A : List Hs} {cur : Nat → Nat} {x x1 : TX} {p q : Phs} {h h' : Hs}
/-- the history behind a Step -/
def Hs.stepped (h : Hs) (R : Int × Int × M × TX) : Hs := if R.1 = 3 ∧ h.done = false then { h with done := true, ver := R.2.2.2.ver } else h
theorem Life.go (L : Life m n X P V Pb A cur) (hj : j < n) (hst : (X j).st = 2) (hA : A[cur j]? = some h) : ∃ p V' Pb', Life ((X j).go m).2.2.1 n (upd X j ((X j).go m).2.2.2) (upd P j p) V' Pb' (A.set (cur j) (h.stepped ((X j).go m))) cur := by
  obtain ⟨p, hi, hd⟩ := L.inv.go hj hst
  have d0 := L.undone hj hA (by omega)
  have hok := L.inv.ok j hj
  generalize (X j).go m = R at *
  by_cases hm : ∀ d r, P j ≠ .pub d r
  · obtain ⟨L1, n3⟩ := L.didMute hj hst hA hd hi hm
    refine ⟨p, V, Pb, ?_⟩
    unfold Hs.stepped
    rw [if_neg (fun e => n3 e.1), set_self hA]
    exact L1
  · cases hp : P j with
    | pub d r =>
      cases r with
      | nil => rw [hp] at hok; exact absurd rfl hok.2.2.1
      | cons i r =>
        refine ⟨p, nV (X j) V (P j), nP (X j) Pb (P j), ?_⟩
        have L1 := L.didPub hj hst hA hd hi hp
        have e : h.stepped R = if R.1 = 3 then { h with done := true, ver := (X j).ver } else h := by
          unfold Hs.stepped
          by_cases e3 : R.1 = 3
          · rw [if_pos ⟨e3, d0⟩, if_pos e3]
            rw [hp] at hd
            cases hd with
            | fail => cases e3
            | pub _ _ _ _ hv _ => show ({ h with done := true, ver := _ } : Hs) = _; rw [show ((_, _, _, _) : Int × Int × M × TX).2.2.2.ver = (X j).ver from hv]
          · rw [if_neg (fun e => e3 e.1), if_neg e3]
        rw [e]
        exact L1
    | opn => exact absurd (fun d r e => by rw [hp] at e; cases e) hm
    | over => exact absurd (fun d r e => by rw [hp] at e; cases e) hm
    | lock => exact absurd (fun d r e => by rw [hp] at e; cases e) hm
    | look => exact absurd (fun d r e => by rw [hp] at e; cases e) hm
theorem Life.opens (L : Life m n X P V Pb A cur) (hj : j < n) (hst : (X j).st = 1) (hW : (X j).S.W ≠ []) : Life m n (upd X j { X j with st := 2, left := (X j).ends }) (upd P j (.lock [] (X j).Ws)) V Pb A cur := by
  obtain ⟨h, hA⟩ : ∃ h, A[cur j]? = some h := ⟨_, List.getElem?_eq_getElem (L.len j hj)⟩
  have t := L.tx j hj _ hA
  have d0 := L.undone hj hA (by omega)
  have hp := L.inv.opn hj hst
  obtain ⟨_, hi, hc⟩ := L.inv.opens hj hst hW
  obtain ⟨hg, hF⟩ := L.gh.calm hj hc
  have hF2 := fun b i (hf : Fix m n X P b i) => (⟨hF b i hf, rfl⟩ : _ ∧ V b i = V b i)
  have := L.mute (h' := h) hj hA d0 d0 (fun d r e => by rw [hp] at e; cases e) (fun _ _ e => by cases e) hi hg (Int.le_refl _) hF (t.move ⟨rfl, rfl, rfl⟩ (Int.le_refl _) hF2 (fun q => q.elim) (fun _ _ e => by cases e) (fun _ _ e => by cases e) ⟨fun e => (by rw [d0] at e; cases e), fun (e : (2 : Int) = 3) => by omega⟩) (fun g hgg => ((L.hs _ _ hA).op g hgg).stay hF2) (fun q => q.elim)
  rw [set_self hA] at this
  exact this
theorem Life.step (L : Life m n X P V Pb A cur) (hj : j < n) (hA : A[cur j]? = some h) : ∃ p V' Pb', Life ((X j).step m).2.2.1 n (upd X j ((X j).step m).2.2.2) (upd P j p) V' Pb' (A.set (cur j) (h.stepped ((X j).step m))) cur := by
  by_cases h34 : (X j).st = 3 ∨ (X j).st = 4
  · have e : (X j).step m = ((X j).st, 132, m, X j) := by unfold TX.step; rw [if_pos h34]
    rw [e]
    have es : h.stepped ((X j).st, 132, m, X j) = h := by
      unfold Hs.stepped
      refine if_neg (fun e => ?_)
      have := (L.tx j hj _ hA).done.2 e.1
      rw [e.2] at this
      cases this
    rw [es, set_self hA]
    exact ⟨P j, V, Pb, by rw [upd_id, upd_id]; exact L⟩
  · by_cases h1 : (X j).st = 1
    · by_cases hW : (X j).S.W = []
      · have d0 := L.undone hj hA (by omega)
        rw [(L.inv.stay hj h1 hW).1]
        refine ⟨.over, V, Pb, ?_⟩
        unfold Hs.stepped
        rw [if_pos ⟨rfl, d0⟩]
        exact L.stay hj h1 hA hW
      · rw [(L.inv.opens hj h1 hW).1]
        have L1 := L.opens hj h1 hW
        obtain ⟨p, V2, P2, L2⟩ := L1.go hj (by rw [upd_same]) hA
        rw [upd_same, upd_upd, upd_upd] at L2
        exact ⟨p, V2, P2, L2⟩
    · have h2 : (X j).st = 2 := by
        have hok := L.inv.ok j hj
        cases hp : P j with
        | opn => rw [hp] at hok; exact absurd hok.1 h1
        | over => rw [hp] at hok; exact absurd hok h34
        | lock d r => rw [hp] at hok; exact hok.1
        | look d r => rw [hp] at hok; exact hok.1
        | pub d r => rw [hp] at hok; exact hok.1
      have e : (X j).step m = (X j).go m := by unfold TX.step; rw [if_neg h34, if_neg h1]
      rw [e]
      exact L.go hj h2 hA
end
/-! ### the cells as of a version, out of the histories -/
def Hs.hit (h : Hs) (k : Int) : Prop := h.done = true ∧ h.ver = k ∧ h.wr.length > 0
instance (h : Hs) (k : Int) : Decidable (h.hit k) := by unfold Hs.hit; infer_instance
def over (w : List (Int × Int)) (f : Int → Int) : Int → Int := fun i => (gt w i).getD (f i)
def layer (A : List Hs) (k : Int) (f : Int → Int) : Int → Int := A.foldl (fun f h => if h.hit k then over h.wr f else f) f
def atP (A : List Hs) : Nat → Int → Int
  | 0 => fun _ => 0
  | k + 1 => layer A ((k : Int) + 1) (atP A k)
theorem layer_none (i k : Int) : ∀ (A : List Hs) (f : Int → Int), (∀ h ∈ A, h.hit k → gt h.wr i = none) → layer A k f i = f i
  | [], _, _ => rfl
  | h :: A, f, hn => by
    show layer A k (if h.hit k then over h.wr f else f) i = f i
    rw [layer_none i k A _ (fun g hg => hn g (List.mem_cons_of_mem _ hg))]
    split
    · rename_i hh
      unfold over
      rw [hn h List.mem_cons_self hh]
      rfl
    · rfl
theorem layer_some (i k v : Int) : ∀ (A : List Hs) (f : Int → Int), (∀ h ∈ A, h.hit k → ∀ u, gt h.wr i = some u → u = v) → (f i = v ∨ ∃ h ∈ A, h.hit k ∧ ∃ u, gt h.wr i = some u) → layer A k f i = v
  | [], f, _, h0 => by
    rcases h0 with e | ⟨_, e, _⟩
    · exact e
    · cases e
  | h :: A, f, hv, h0 => by
    show layer A k (if h.hit k then over h.wr f else f) i = v
    refine layer_some i k v A _ (fun g hg => hv g (List.mem_cons_of_mem _ hg)) ?_
    by_cases hh : h.hit k
    · rw [if_pos hh]
      unfold over
      cases hu : gt h.wr i with
      | some u => exact .inl (hv h List.mem_cons_self hh u hu)
      | none =>
        rcases h0 with e | ⟨g, hg, hg2, u, hg3⟩
        · exact .inl e
        · rcases List.mem_cons.1 hg with e | e
          · rw [e, hu] at hg3; cases hg3
          · exact .inr ⟨g, e, hg2, u, hg3⟩
    · rw [if_neg hh]
      rcases h0 with e | ⟨g, hg, hg2, u, hg3⟩
      · exact .inl e
      · rcases List.mem_cons.1 hg with e | e
        · rw [e] at hg2; exact absurd hg2 hh
        · exact .inr ⟨g, e, hg2, u, hg3⟩
/-- nobody publishes any more: the histories tell the cells of each version -/
theorem Life.atEnd {m : M} {n : Nat} {X : Nat → TX} {P : Nat → Phs} {V : Int → Int → Int} {Pb : Int → Int → Int → Prop} {A : List Hs} {cur : Nat → Nat} (L : Life m n X P V Pb A cur) (hn : ∀ j, j < n → (P j).mute) (i : Int) : ∀ b : Nat, atP A b i = V b i
  | 0 => (L.gh.zero 0 i (Int.le_refl _)).symm
  | b + 1 => by
    have ih := L.atEnd hn i b
    have pb : ∀ v, Pb ((b : Int) + 1) i v ↔ ∃ h ∈ A, h.hit ((b : Int) + 1) ∧ gt h.wr i = some v := fun v => by
      rw [L.pb]
      constructor
      · rintro (⟨a, h, h1, h2, h3, h4⟩ | ⟨j, hj, d, r, e, _, e2, _⟩)
        · refine ⟨h, List.mem_of_getElem? h1, ⟨h2, h3, ?_⟩, h4⟩
          cases hw : h.wr with
          | nil => rw [hw] at h4; cases h4
          | cons _ _ => simp
        · rw [hn j hj d r e] at e2; cases e2
      · rintro ⟨h, h1, ⟨h2, h3, _⟩, h4⟩
        obtain ⟨a, ha⟩ := List.getElem?_of_mem h1
        exact .inl ⟨a, h, ha, h2, h3, h4⟩
    show layer A ((b : Int) + 1) (atP A b) i = V ((b : Int) + 1) i
    by_cases he : ∃ v, Pb ((b : Int) + 1) i v
    · refine layer_some i _ _ A _ (fun h hh hit u hu => ((L.gh.pos _ _ _ ((pb u).2 ⟨h, hh, hit, hu⟩)).2).symm) (.inr ?_)
      obtain ⟨v, hv⟩ := he
      obtain ⟨h, h1, h2, h3⟩ := (pb v).1 hv
      exact ⟨h, h1, h2, v, h3⟩
    · rw [layer_none i _ A _ (fun h hh hit => ?_), ih]
      · have := L.gh.old ((b : Int) + 1) i (by omega) (fun v hv => he ⟨v, hv⟩)
        rw [this]
        congr 1
        omega
      · cases hu : gt h.wr i with
        | none => rfl
        | some u => exact absurd ⟨u, (pb u).2 ⟨h, hh, hit, hu⟩⟩ he
end Go.Proofs.Ytafiopjgegmfoaa.T
namespace Go.Proofs.Ytafiopjgegmfoaa.T
open Go.RowKit Go.Proofs.Ytafiopjgegmfoaa.C
section
variable {m m' : M} {n j : Nat} {X : Nat → TX} {P : Nat → Phs} {V V' : Int → Int → Int} {Pb Pb' : Int → Int → Int → Prop} {A : List Hs} {cur : Nat → Nat} {x x1 : TX} {p q : Phs} {h h' : Hs}
theorem Life.atInt (L : Life m n X P V Pb A cur) (hn : ∀ j, j < n → (P j).mute) (b i : Int) : atP A b.toNat i = V b i := by
  by_cases hb : 0 ≤ b
  · rw [L.atEnd hn, Int.toNat_of_nonneg hb]
  · rw [show b.toNat = 0 by omega, L.gh.zero b i (by omega)]
    rfl
/-- what anyone read is what those up to its beginning left -/
theorem Life.moment (L : Life m n X P V Pb A cur) (hn : ∀ j, j < n → (P j).mute) (hh : h ∈ A) (g : Int × Int) (hg : g ∈ h.rd) : atP A h.beg.toNat g.1 = g.2 := by
  obtain ⟨a, ha⟩ := List.getElem?_of_mem hh
  rw [L.atInt hn]
  exact ((L.hs a h ha).op g hg).2
/-- what a committed one read is what those of lesser versions left -/
theorem Life.serial (L : Life m n X P V Pb A cur) (hn : ∀ j, j < n → (P j).mute) (hh : h ∈ A) (hd : h.done = true) (g : Int × Int) (hg : g ∈ h.rd) : atP A (if h.wr.length > 0 then h.ver - 1 else h.ver).toNat g.1 = g.2 := by
  obtain ⟨a, ha⟩ := List.getElem?_of_mem hh
  rw [L.atInt hn]
  have ok := L.hs a h ha
  by_cases hw : h.wr = []
  · rw [if_neg (by rw [hw]; simp), ok.ro hd hw]
    exact (ok.op g hg).2
  · rw [if_pos (List.length_pos_iff.2 hw)]
    exact ((ok.ser ⟨hd, hw⟩).2.2 g hg).2
/-- the cells in the end -/
theorem Life.last (L : Life m n X P V Pb A cur) (hn : ∀ j, j < n → (P j).mute) {i most : Int} {c : Cl} (hc : m.cell? i = some c) (h0 : 0 ≤ most) (hm : ∀ h ∈ A, h.cm → h.ver ≤ most) : c.v = .int .i64 (atP A most.toNat i) := by
  rw [L.atInt hn]
  refine L.gh.val i c hc most ?_
  rcases L.gh.top i c hc with e | ⟨v, hv⟩
  · omega
  · rcases (L.pb _ _ _).1 hv with ⟨a, h, h1, h2, h3, h4⟩ | ⟨j, hj, d, r, e, _, e2, _⟩
    · rw [← h3]
      refine hm h (List.mem_of_getElem? h1) ⟨h2, fun e => ?_⟩
      rw [e] at h4; cases h4
    · rw [hn j hj d r e] at e2; cases e2
/-- a Step of one that publishes: it is over, or has one less to do -/
theorem goPub {R : Int × Int × M × TX} {d r : List Int} (hd : Did m (X j) (.pub d r) R p) : p = .over ∨ ∃ d2 r2, p = .pub d2 r2 ∧ r2.length < r.length := by
  cases hd with
  | fail _ _ _ hne => exact .inl rfl
  | pub _ _ _ _ _ hq =>
    rcases hq with ⟨_, _, e⟩ | ⟨_, _, _, e⟩
    · exact .inr ⟨_, _, e, by simp⟩
    · exact .inl e
/-- nobody owns a cell in the end -/
theorem Life.free (L : Life m n X P V Pb A cur) (hn : ∀ j, j < n → P j = .over) {i : Int} {c : Cl} (hc : m.cell? i = some c) : c.own = 0 := by
  rcases (L.inv.cell i c hc).2.2 with e | ⟨j, hj, _, e⟩
  · exact e
  · rw [hn j hj] at e; cases e
end
def H0 : Hs := ⟨0, 0, [], [], false⟩
theorem life_new (k n : Nat) : Life (M0 k) n (fun j => X0 ((j : Int) + 1) 0) (fun _ => .opn) (fun _ _ => 0) (fun _ _ _ => False) (List.replicate n H0) id := by
  have hc : ∀ i c, (M0 k).cell? i = some c → c = ⟨.int .i64 0, 0, 0⟩ := fun i c hc => by
    unfold M.cell? M0 at hc
    split at hc
    · exact (List.mem_replicate.1 (List.mem_of_getElem? hc)).2
    · cases hc
  have hr : ∀ (a : Nat) h, (List.replicate n H0)[a]? = some h → h = H0 := fun a h e => (List.mem_replicate.1 (List.mem_of_getElem? e)).2
  refine ⟨⟨fun _ _ => ⟨rfl, rfl, rfl⟩, fun _ _ => rfl, fun _ _ => List.nodup_nil, fun _ _ i hi => (by cases hi), fun i c h => ?_, fun _ _ i hi => (by cases hi), fun _ _ q => q.elim, fun _ _ _ _ _ q => q.elim, Int.le_refl _⟩, ⟨fun i c h b _ => (by rw [hc i c h]), fun _ _ _ => rfl, fun _ _ _ q => q.elim, fun _ _ _ _ => rfl, fun _ _ _ q => q.elim, fun i c h => .inl (by rw [hc i c h]; exact Int.le_refl _)⟩, fun j hj => (by rw [List.length_replicate]; exact hj), fun _ _ _ _ e => e, fun j _ h e => ?_, fun a h e => ?_, fun a b g1 g2 e1 _ _ c1 => ?_, fun a h e c => ?_, fun b i v => ⟨fun q => q.elim, fun q => ?_⟩⟩
  · rw [hc i c h]; exact ⟨Int.le_refl _, Int.le_refl _, .inl rfl⟩
  · rw [hr _ h e]
    exact ⟨⟨rfl, Int.le_refl _⟩, rfl, fun g hg => (by cases hg), fun q => q.elim, fun _ _ e => (by cases e), fun _ _ e => (by cases e), ⟨fun e => (by cases e), fun (e : (1 : Int) = 3) => by omega⟩⟩
  · rw [hr a h e]
    exact ⟨fun g hg => (by cases hg), fun c => (by cases c.1), fun c => (by cases c)⟩
  · rw [hr a g1 e1] at c1; cases c1.1
  · rw [hr a h e] at c; cases c.1
  · rcases q with ⟨a, h, e, e2, _⟩ | ⟨_, _, _, _, e, _⟩
    · rw [hr a h e] at e2; cases e2
    · cases e
end Go.Proofs.Ytafiopjgegmfoaa.T
namespace Go.Proofs.Ytafiopjgegmfoaa.T
open Go.RowKit Go.Proofs.Ytafiopjgegmfoaa.C
section
variable {m m' : M} {n j : Nat} {X : Nat → TX} {P : Nat → Phs} {V V' : Int → Int → Int} {Pb Pb' : Int → Int → Int → Prop} {A : List Hs} {cur : Nat → Nat} {x x1 : TX} {p q : Phs} {h h' : Hs}
/-- the history behind a Read that told v and e -/
def Hs.didRead (h : Hs) (i v e : Int) : Hs := if e = 0 ∧ gt h.wr i = none then { h with rd := h.rd ++ [(i, v)] } else h
def Hs.didWrite (h : Hs) (i v e : Int) : Hs := if e = 0 then { h with wr := pt h.wr i v } else h
theorem read_errs (S : SS Int) (i v : Int) (h : (S.read i v).1 ≠ 0) : (S.read i v).2 = S := by
  revert h
  unfold SS.read
  repeat' split
  all_goals first | exact fun _ => rfl | exact fun h => absurd rfl h
theorem write_errs (S : SS Int) (i v : Int) (h : (S.write i v).1 ≠ 0) : (S.write i v).2 = S := by
  revert h
  unfold SS.write
  repeat' split
  all_goals first | exact fun _ => rfl | exact fun h => absurd rfl h
theorem Life.keep (L : Life m n X P V Pb A cur) (hA : A[cur j]? = some h) : Life m n (upd X j (X j)) (upd P j (P j)) V Pb (A.set (cur j) h) cur := by
  rw [upd_id, upd_id, set_self hA]
  exact L
theorem Life.readAny (L : Life m n X P V Pb A cur) (hj : j < n) (hA : A[cur j]? = some h) (i : Int) : ∃ p, Life ((X j).read m i).2.2.1 n (upd X j ((X j).read m i).2.2.2) (upd P j p) V Pb (A.set (cur j) (h.didRead i ((X j).read m i).1 ((X j).read m i).2.1)) cur ∧ (((X j).read m i).2.1 = 0 → gt h.wr i ≠ none → gt h.wr i = some ((X j).read m i).1) := by
  have t := L.tx j hj _ hA
  have no : ∀ v e : Int, e ≠ 0 → h.didRead i v e = h := fun v e he => if_neg (fun q => he q.1)
  by_cases hst : (X j).st = 1
  · unfold TX.read
    rw [if_neg (by simpa using hst)]
    cases hg : gt (X j).S.W i with
    | some v =>
      have hw : gt h.wr i = some v := by rw [t.wr]; exact hg
      have e : h.didRead i v 0 = h := if_neg (fun q => by rw [hw] at q; cases q.2)
      exact ⟨P j, by rw [e]; exact L.keep hA, fun _ _ => hw⟩
    | none =>
      have hw : gt h.wr i = none := by rw [t.wr]; exact hg
      cases hc : m.cell? i with
      | none => exact ⟨P j, by rw [no _ _ (by show (2 : Int) ≠ 0; decide)]; exact L.keep hA, fun _ q => absurd hw q⟩
      | some c =>
        dsimp only
        by_cases hb : (X j).bad i c
        · rw [if_pos hb, no _ _ (by show (131 : Int) ≠ 0; decide)]
          refine ⟨.over, ?_, fun _ q => absurd hw q⟩
          rw [set_self hA]
          refine L.failed hj (by omega) ?_
          have hok := L.inv.ok j hj
          rw [L.inv.opn hj hst] at hok
          exact hok.2.2
        · rw [if_neg hb]
          by_cases hr : ((X j).S.read i c.ver).1 = 0
          · rw [if_neg (by simpa using hr)]
            refine ⟨P j, ?_, fun _ q => absurd hw q⟩
            have e : h.didRead i (iv c.v) 0 = { h with rd := h.rd ++ [(i, iv c.v)] } := if_pos ⟨rfl, hw⟩
            rw [e]
            exact L.read hj hst hA hc hb hr
          · rw [if_pos hr, no _ _ hr, read_errs _ _ _ hr]
            exact ⟨P j, L.keep hA, fun _ q => absurd hw q⟩
  · unfold TX.read
    rw [if_pos hst]
    exact ⟨P j, by rw [no _ _ (by show (132 : Int) ≠ 0; decide)]; exact L.keep hA, fun e => absurd e (by show (132 : Int) ≠ 0; decide)⟩
theorem Life.writeAny (L : Life m n X P V Pb A cur) (hj : j < n) (hA : A[cur j]? = some h) (i v : Int) : Life m n (upd X j ((X j).write m i v).2) (upd P j (P j)) V Pb (A.set (cur j) (h.didWrite i v ((X j).write m i v).1)) cur := by
  have no : ∀ e : Int, e ≠ 0 → h.didWrite i v e = h := fun e he => if_neg he
  unfold TX.write
  by_cases hst : (X j).st = 1
  · rw [if_neg (by simpa using hst)]
    cases hc : m.cell? i with
    | none => rw [no _ (by show (2 : Int) ≠ 0; decide)]; exact L.keep hA
    | some c =>
      dsimp only
      by_cases hw : ((X j).S.write i v).1 = 0
      · rw [hw]
        exact L.write hj hst hA ⟨c, hc⟩ hw
      · rw [no _ hw, write_errs _ _ _ hw]
        exact L.keep hA
  · rw [if_pos hst, no _ (by show (132 : Int) ≠ 0; decide)]
    exact L.keep hA
end
end Go.Proofs.Ytafiopjgegmfoaa.T
namespace Go.Proofs.Ytafiopjgegmfoaa.T
open Go.RowKit Go.Proofs.Ytafiopjgegmfoaa.C
/-- at most k cells are left to be published, then it is over -/
def Phs.near (k : Nat) (p : Phs) : Prop := p = .over ∨ ∃ d r, p = .pub d r ∧ r.length ≤ k
section
variable {m m' : M} {n j : Nat} {X : Nat → TX} {P : Nat → Phs} {V V' : Int → Int → Int} {Pb Pb' : Int → Int → Int → Prop} {A : List Hs} {cur : Nat → Nat} {x x1 : TX} {p q : Phs} {h h' : Hs}
theorem Life.near0 (L : Life m n X P V Pb A cur) (hj : j < n) (hn : (P j).near 0) : P j = .over := by
  rcases hn with e | ⟨d, r, e, hr⟩
  · exact e
  · have hok := L.inv.ok j hj
    rw [e] at hok
    exact absurd (List.length_eq_zero_iff.1 (Nat.le_zero.1 hr)) hok.2.2.1
theorem Life.stepNear (L : Life m n X P V Pb A cur) (hj : j < n) (hA : A[cur j]? = some h) {k : Nat} (hn : (P j).near k) : ∃ p V' Pb', p.near (k - 1) ∧ Life ((X j).step m).2.2.1 n (upd X j ((X j).step m).2.2.2) (upd P j p) V' Pb' (A.set (cur j) (h.stepped ((X j).step m))) cur := by
  have hok := L.inv.ok j hj
  rcases hn with hp | ⟨d, r, hp, hr⟩
  · rw [hp] at hok
    have e : (X j).step m = ((X j).st, 132, m, X j) := by unfold TX.step; exact if_pos hok
    rw [e]
    have es : h.stepped ((X j).st, 132, m, X j) = h := by
      unfold Hs.stepped
      refine if_neg (fun e => ?_)
      have := (L.tx j hj _ hA).done.2 e.1
      rw [e.2] at this
      cases this
    rw [es]
    exact ⟨P j, V, Pb, .inl hp, L.keep hA⟩
  · rw [hp] at hok
    have h2 := hok.1
    have e : (X j).step m = (X j).go m := by unfold TX.step; rw [if_neg (by omega), if_neg (by omega)]
    rw [e]
    obtain ⟨p, hi, hd⟩ := L.inv.go hj h2
    have d0 := L.undone hj hA (by omega)
    generalize (X j).go m = R at *
    cases r with
    | nil => exact absurd rfl hok.2.2.1
    | cons i r =>
      have L1 := L.didPub hj h2 hA hd hi hp
      have e : h.stepped R = if R.1 = 3 then { h with done := true, ver := (X j).ver } else h := by
        unfold Hs.stepped
        by_cases e3 : R.1 = 3
        · rw [if_pos ⟨e3, d0⟩, if_pos e3]
          rw [hp] at hd
          cases hd with
          | fail => cases e3
          | pub _ _ _ _ hv _ => show ({ h with done := true, ver := _ } : Hs) = _; rw [show ((_, _, _, _) : Int × Int × M × TX).2.2.2.ver = (X j).ver from hv]
        · rw [if_neg (fun e => e3 e.1), if_neg e3]
      rw [e]
      refine ⟨p, _, _, ?_, L1⟩
      rw [hp] at hd
      rcases goPub hd with e | ⟨d2, r2, e, hl⟩
      · exact .inl e
      · exact .inr ⟨d2, r2, e, by omega⟩
/-- an Abort that is granted: it is over; one that is not: it is over, or publishes -/
theorem Life.abortEnd (L : Life m n X P V Pb A cur) (hj : j < n) : (((X j).abort m).1 = 0 ∧ Life ((X j).abort m).2.1 n (upd X j ((X j).abort m).2.2) (upd P j .over) V Pb A cur) ∨ (((X j).abort m).1 = 132 ∧ ((X j).abort m).2.1 = m ∧ ((X j).abort m).2.2 = X j ∧ (P j).near (X j).Ws.length) := by
  unfold TX.abort
  split
  · rename_i hc
    refine .inr ⟨rfl, rfl, rfl, ?_⟩
    have hok := L.inv.ok j hj
    cases hp : P j with
    | over => exact .inl rfl
    | pub d r =>
      rw [hp] at hok
      refine .inr ⟨d, r, rfl, ?_⟩
      rw [hok.2.1, List.length_append]
      omega
    | opn =>
      rw [hp] at hok
      have := hok.1
      rcases hc with e | e | e
      · omega
      · omega
      · rw [hok.2.2] at e; cases e
    | lock d r =>
      rw [hp] at hok
      have := hok.1
      rcases hc with e | e | e
      · omega
      · omega
      · rw [hok.2.2.2.2.2] at e; cases e
    | look d r =>
      rw [hp] at hok
      have := hok.1
      rcases hc with e | e | e
      · omega
      · omega
      · rw [hok.2.2.2.2.2] at e; cases e
  · rename_i hn
    exact .inl ⟨rfl, L.failed hj (fun e => hn (.inl e)) (by cases hb : (X j).pub with | false => rfl | true => exact absurd (.inr (.inr hb)) hn)⟩
end
end Go.Proofs.Ytafiopjgegmfoaa.T
namespace Go.Proofs.Ytafiopjgegmfoaa.T
open Go.RowKit Go.Proofs.Ytafiopjgegmfoaa.C
theorem nodup_len : ∀ (k : Nat) (l : List Int), l.Nodup → (∀ i ∈ l, 0 ≤ i ∧ i < (k : Int)) → l.length ≤ k
  | 0, l, _, h => by
    cases l with
    | nil => exact Nat.le_refl _
    | cons a l => have := h a List.mem_cons_self; omega
  | k + 1, l, hn, h => by
    have h1 := nodup_len k (l.erase (k : Int)) (hn.erase _) (fun i hi => by
      have a := h i (List.mem_of_mem_erase hi)
      have b : i ≠ (k : Int) := fun e => by
        rw [hn.mem_erase_iff] at hi
        exact hi.1 e
      omega)
    have h2 : l.length - 1 ≤ (l.erase (k : Int)).length := by
      rw [List.length_erase]
      split <;> omega
    omega
theorem rel_len (m : M) (o : Int) : (m.rel o).C.length = m.C.length := by unfold M.rel; simp
theorem put_len (m : M) (i : Int) (c : Cl) : (m.put i c).C.length = m.C.length := by unfold M.put; simp
theorem lock_len (m : M) (i o : Int) : (m.lock i o).1.C.length = m.C.length := by
  unfold M.lock
  repeat' split
  all_goals first | rfl | exact put_len _ _ _
theorem publish_len (m : M) (i o : Int) (v : Value) (k : Int) : (m.publish i o v k).1.C.length = m.C.length := by
  unfold M.publish
  repeat' split
  all_goals first | rfl | exact put_len _ _ _
theorem adv_len (m : M) : m.adv.1.C.length = m.C.length := by
  unfold M.adv
  split <;> rfl
theorem do1_len (m : M) (x : TX) (s : Stp) : (x.do1 m s).2.1.C.length = m.C.length := by
  unfold TX.do1
  repeat' split
  all_goals first | rfl | exact lock_len _ _ _ | exact adv_len _ | exact publish_len _ _ _ _ _
theorem fin_len (o : Int) (L : List Stp) (r : Int × M × TX) : (TX.fin o L r).2.2.1.C.length = r.2.1.C.length := by
  unfold TX.fin
  repeat' split
  all_goals first | rfl | exact rel_len _ _
theorem go_len (m : M) (x : TX) : (x.go m).2.2.1.C.length = m.C.length := by
  unfold TX.go
  split
  · rfl
  · rw [fin_len, do1_len]
theorem step_len (m : M) (x : TX) : (x.step m).2.2.1.C.length = m.C.length := by
  unfold TX.step
  repeat' split
  all_goals first | rfl | exact go_len _ _
theorem abort_len (m : M) (x : TX) : (x.abort m).2.1.C.length = m.C.length := by
  unfold TX.abort
  split
  · rfl
  · exact rel_len _ _
theorem read_len (m : M) (x : TX) (i : Int) : (x.read m i).2.2.1.C.length = m.C.length := by
  unfold TX.read
  repeat' split
  all_goals first | rfl | exact rel_len _ _
theorem Ws_len {m : M} {n : Nat} {X : Nat → TX} {P : Nat → Phs} (h : Inv m n X P) {j : Nat} (hj : j < n) : (X j).Ws.length ≤ m.C.length := by
  refine nodup_len _ _ (Ws_nd h hj) (fun i hi => ?_)
  obtain ⟨c, hc⟩ := h.ex j hj i ((Ws_mem _ _).1 hi)
  obtain ⟨k, e, _, hl⟩ := M.cell_in hc
  omega
end Go.Proofs.Ytafiopjgegmfoaa.T
namespace Go.Proofs.Ytafiopjgegmfoaa.T
open Go.RowKit Go.Proofs.Ytafiopjgegmfoaa.C
structure Hs.In (h : Hs) : Prop where
  nd : (kys h.wr).Nodup
  wr : ∀ i ∈ kys h.wr, 0 ≤ i ∧ i < 6
  rd : ∀ g ∈ h.rd, 0 ≤ g.1 ∧ g.1 < 6
  bg : h.beg ≤ 1099511627776
def AllIn (A : List Hs) : Prop := ∀ (a : Nat) h, A[a]? = some h → h.In
theorem Hs.In.fresh (k : Int) (hk : k ≤ 1099511627776) : (⟨k, 0, [], [], false⟩ : Hs).In := ⟨List.nodup_nil, fun _ h => (by cases h), fun _ h => (by cases h), hk⟩
theorem Hs.In.didRead {h : Hs} (H : h.In) {i : Int} (hi : 0 ≤ i ∧ i < 6) (v e : Int) : (h.didRead i v e).In := by
  unfold Hs.didRead
  split
  · refine ⟨H.nd, H.wr, fun g hg => ?_, H.bg⟩
    rcases List.mem_append.1 hg with hg | hg
    · exact H.rd g hg
    · rw [List.mem_singleton] at hg
      rw [hg]
      exact hi
  · exact H
theorem Hs.In.didWrite {h : Hs} (H : h.In) {i : Int} (hi : 0 ≤ i ∧ i < 6) (v e : Int) : (h.didWrite i v e).In := by
  unfold Hs.didWrite
  split
  · refine ⟨?_, fun q hq => ?_, H.rd, H.bg⟩
    · show (kys (pt h.wr i v)).Nodup
      rw [kys_pt]
      split
      · exact H.nd
      · rename_i hs
        refine List.nodup_append.2 ⟨H.nd, by simp, fun a ha b hb e => ?_⟩
        rw [List.mem_singleton] at hb
        rw [e, hb] at ha
        exact hs ((gt_some_iff _ _).1 ha)
    · have hq : q ∈ kys (pt h.wr i v) := hq
      rw [kys_pt] at hq
      split at hq
      · exact H.wr q hq
      · rcases List.mem_append.1 hq with hq | hq
        · exact H.wr q hq
        · rw [List.mem_singleton] at hq
          rw [hq]
          exact hi
  · exact H
theorem Hs.In.stepped {h : Hs} (H : h.In) (R : Int × Int × M × TX) : (h.stepped R).In := by
  unfold Hs.stepped
  split
  · exact ⟨H.nd, H.wr, H.rd, H.bg⟩
  · exact H
theorem AllIn.set {A : List Hs} (H : AllIn A) (k : Nat) {h : Hs} (hh : h.In) : AllIn (A.set k h) := fun a g hg => by
  rw [List.getElem?_set] at hg
  split at hg
  · split at hg
    · injection hg with hg; rw [← hg]; exact hh
    · cases hg
  · exact H a g hg
theorem AllIn.snoc {A : List Hs} (H : AllIn A) {h : Hs} (hh : h.In) : AllIn (A ++ [h]) := fun a g hg => by
  have := List.mem_of_getElem? hg
  rcases List.mem_append.1 this with h1 | h1
  · obtain ⟨b, hb⟩ := List.getElem?_of_mem h1
    exact H b g hb
  · rw [List.mem_singleton] at h1
    rw [h1]
    exact hh
theorem AllIn.new (n : Nat) : AllIn (List.replicate n H0) := fun _ h e => by
  rw [(List.mem_replicate.1 (List.mem_of_getElem? e)).2]
  exact Hs.In.fresh 0 (by decide)
/-- a row of cells, written pair by pair -/
def pairs (w : List (Int × Int)) (f : Int → Int) : Int → Int := w.foldl (fun f g i => if i = g.1 then g.2 else f i) f
theorem pairs_over : ∀ (w : List (Int × Int)) (f : Int → Int), (kys w).Nodup → ∀ i, pairs w f i = over w f i
  | [], _, _, _ => rfl
  | g :: w, f, hn, i => by
    have hn2 := List.nodup_cons.1 hn
    show pairs w _ i = _
    rw [pairs_over w _ hn2.2 i]
    unfold over
    rw [gt_cons]
    by_cases e : g.1 = i
    · rw [if_pos e]
      have : gt w i = none := by
        cases hg : gt w i with
        | none => rfl
        | some u => exact absurd ((gt_some_iff w i).2 (by rw [hg]; rfl)) (by rw [← e]; exact hn2.1)
      rw [this]
      show (if i = g.1 then g.2 else f i) = g.2
      rw [if_pos e.symm]
    · rw [if_neg e]
      show (gt w i).getD (if i = g.1 then g.2 else f i) = _
      rw [if_neg (fun e2 => e e2.symm)]
end Go.Proofs.Ytafiopjgegmfoaa.T
