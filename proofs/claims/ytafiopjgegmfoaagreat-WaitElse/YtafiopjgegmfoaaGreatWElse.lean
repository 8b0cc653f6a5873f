/-
  WaitElse: two functions, one after the other. WaitElse's walk.
-/
import Derived.Test.YtafiopjgegmfoaaGreatWAwk
namespace Go.Proofs.YtafiopjgegmfoaaGreat.W
open Go.RowKit Go.Maps Go.Proofs.YtafiopjgegmfoaaGreat Go.Proofs.YtafiopjgegmfoaaGreat.C Go.Proofs.YtafiopjgegmfoaaGreat.T
/-- a memory, its transactions, and blocks of one's own -/
def Hb (w0 u : World) (m gm : Nat) (S : M) (l : List (Nat × TX)) (K : Own) : Prop := ∃ G, Hg w0 u m gm S l G ∧ ∀ b ∈ K, Box u b.1 b.2.1 b.2.2 ∧ ¬ G b.1 ∧ w0.heap.size ≤ b.1
section
variable {w0 u u' : World} {m gm g j tb cb ab bb : Nat} {S S' S2 : M} {l l' : List (Nat × TX)} {x x' x2 : TX} {G V : Nat → Prop} {v e : Int} {K K' K2 : Own}
theorem Hb.tx (_ : Hg w0 u m gm S l G) (hK : ∀ b ∈ K, Box u b.1 b.2.1 b.2.2 ∧ ¬ G b.1 ∧ w0.heap.size ≤ b.1) (t : ToG w0 u m gm S' l' G (fun _ => False) u') : Hb w0 u' m gm S' l' K :=
  ⟨_, t.has, fun b hb => by
    obtain ⟨b1, b2, b4⟩ := hK b hb
    exact ⟨(t.upd.2 _ b1.lt (fun hn => hn.elim b2 (fun hf => hf))).trans b1, fun hg => hg.elim b2 (fun hg => by have := b1.lt; omega), b4⟩⟩
theorem Hb.box (h : Hb w0 u m gm S l K) (cs : Array Value) (t : TypeId) : Hb w0 (u.alloc (.cells cs t)) m gm S l ((u.heap.size, cs, t) :: K) := by
  have hb : Below u.heap.size u (u.alloc (.cells cs t)) := (Below.refl _ _).alloc (Nat.le_refl _) _
  obtain ⟨G, h, hK⟩ := h
  refine ⟨G, h.below hb, fun b hk => ?_⟩
  rcases List.mem_cons.1 hk with rfl | hk
  · exact ⟨Box.new u cs t, fun hg => by have := h.lt hg; omega, h.mm.hB⟩
  · exact ⟨(hK b hk).1.below hb (hK b hk).1.lt, (hK b hk).2⟩
theorem Hb.own (h : Hb w0 u m gm S l K) {b : Nat} {cs : Array Value} {t : TypeId} (hk : (b, cs, t) ∈ K) : Box u b cs t := by
  obtain ⟨G, h, hK⟩ := h
  exact (hK _ hk).1
theorem Hb.less (h : Hb w0 u m gm S l K) {K' : Own} (hk : ∀ b ∈ K', b ∈ K) : Hb w0 u m gm S l K' := by
  obtain ⟨G, h, hK⟩ := h
  exact ⟨G, h, fun b hb => hK b (hk b hb)⟩
theorem Hb.bel (h : Hb w0 u m gm S l K) : Below w0.heap.size w0 u := by
  obtain ⟨G, h, _⟩ := h
  exact h.bel
theorem Hb.isX (h : Hb w0 u m gm S [(g, x)] K) : ∃ F, IsX u w0.heap.size g m x F := by
  obtain ⟨G, h, hK⟩ := h
  exact hg_isX (j := 0) h rfl
theorem Hb.status (h : Hb w0 u m gm S l K) (hj : l[j]? = some (g, x)) : Calls Tryz.prog 39 #[ptr g] u fun r u' => r = .returned (.int .u8 x.st) ∧ u' = u := by
  obtain ⟨G, h, hK⟩ := h
  exact h.status hj
theorem Hb.depth (h : Hb w0 u m gm S l K) (hj : l[j]? = some (g, x)) : Calls Tryz.prog 26 #[ptr g] u fun r u' => r = .returned (.int .i64 (x.S.M.length : Int)) ∧ u' = u := by
  obtain ⟨G, h, hK⟩ := h
  exact h.depth hj
theorem Hb.read (h : Hb w0 u m gm S l K) (hj : l[j]? = some (g, x)) (i : Int) (hi : (Lit.int .i64 i).wf = true) (he : x.read S i = (v, e, S', x')) : Calls Tryz.prog 18 #[ptr g, .int .i64 i] u fun r u' => r = .returned (.tuple #[.int .i64 v, .int .i64 e]) ∧ Hb w0 u' m gm S' (l.set j (g, x')) K := by
  obtain ⟨G, h, hK⟩ := h
  exact (h.read hj i hi he).mono fun r u' ⟨a, t⟩ => ⟨a, Hb.tx h hK t⟩
theorem Hb.scope (h : Hb w0 u m gm S [(g, x)] K) (hs : x.st = 1) (hd : x.S.M.length < 8) (V : Nat → Prop) (hV : ∀ y, V y → y < u.heap.size) (f : Nat) (caps : Array Value) (hin : ∀ args w, (callFunc f args).run Tryz.prog w = .ok (.enter f args) w) (hK2 : ∀ b ∈ K2, ∃ b' ∈ K, b'.1 = b.1)
    (hb : ∀ u1 G1, Hg w0 u1 m gm S [(g, x.open1)] G1 → (∀ b ∈ K, Box u1 b.1 b.2.1 b.2.2 ∧ ¬ G1 b.1 ∧ w0.heap.size ≤ b.1) → Calls Tryz.prog f caps u1 fun r u2 => r = .returned (.int .i64 e) ∧ ToG w0 u1 m gm S2 [(g, x2)] G1 V u2 ∧ ∀ b ∈ K2, Box u2 b.1 b.2.1 b.2.2) :
    Calls Tryz.prog 38 #[ptr g, .func (.func f) #[] caps] u fun r u' => r = .returned (.int .i64 (x2.shutE (x.S.M.length + 1) e)) ∧ Hb w0 u' m gm S2 [(g, x2.shut (x.S.M.length + 1) e)] K2 := by
  obtain ⟨G, h, hK⟩ := h
  have hB : Body w0 u m gm g S x.open1 G V f caps (fun e' S' y u2 => e' = e ∧ S' = S2 ∧ y = x2 ∧ ∀ b ∈ K2, Box u2 b.1 b.2.1 b.2.2) := fun u1 G1 hu k1 k2 hg1 => by
    refine (hb u1 G1 hg1 (fun b hk => ⟨Box.upd (hK b hk).1 hu (hK b hk).2.1, fun hg => (k2 _ hg).elim (hK b hk).2.1 (fun hl => by have := (hK b hk).1.lt; omega), (hK b hk).2.2⟩)).mono ?_
    rintro r u2 ⟨rfl, t, q⟩
    exact ⟨e, S2, x2, rfl, t, rfl, rfl, rfl, q⟩
  refine (scope_at h hs hd hV f caps hin _ hB).mono ?_
  rintro r u' ⟨e', S', y, u2, ⟨rfl, rfl, rfl, q⟩, rfl, t, hk⟩
  refine ⟨rfl, _, t.has, fun b hb => ?_⟩
  obtain ⟨b', hb', eb⟩ := hK2 b hb
  obtain ⟨q1, q2, q3⟩ := hK b' hb'
  rw [eb] at q1 q2 q3
  exact ⟨(hk _ q1.lt q2).trans (q b hb), fun hg => hg.elim q2 (fun hg => by have := q1.lt; omega), q3⟩
theorem bk23_at (h : Hg w0 u m gm S [(g, x)] G) (bt : Box u tb #[ptr g] 35) (ba : Box u ab #[.int .i64 v] 23) (hG : ¬ G ab) (hV : ¬ V ab) (he : x.write S 0 1 = (e, x')) : Calls Tryz.prog 23 #[ptr tb, ptr ab] u fun r u' => r = .returned (.int .i64 v) ∧ ToG w0 u m gm S [(g, x')] G V u' := by
  have c1 := bt.cell 0
  simp only [List.getElem?_toArray, List.getElem?_cons_zero] at c1
  have cw := hg_write (V := V) h 0 1 he
  have HA : Hid (∀ u1, ToG w0 u m gm S [(g, x')] G V u1 → u1.cell? ⟨ab, 0, none⟩ = some (.int .i64 v)) := fun u1 t => (Box.upd ba t.upd (fun hn => hn.elim hG hV)).cell 0
  clear h bt ba
  unfold ptr at *
  go_enter Tryz.func23, Tryz.ntmps23
  go_wp2_with (go_at_call 24; refine cw.mono ?_; rintro e' u1 ⟨rfl, k⟩; have K : Hid (ToG w0 u m gm S [(g, x')] G V u1) := k; have ca := HA.out u1 k; clear k)
  go_ret
  exact ⟨rfl, K.out⟩
theorem bk25_at (h : Hg w0 u m gm S [(g, x)] G) (bc : Box u cb #[.int .i64 0] 3) (bt : Box u tb #[ptr g] 35) (ba : Box u ab #[.int .i64 v] 23) (hGc : ¬ G cb) (hG : ¬ G ab) (hGt : ¬ G tb) (h0 : w0.heap.size ≤ cb) (he : x.write S 1 1 = (e, x')) : Calls Tryz.prog 25 #[ptr cb, ptr tb, ptr ab] u fun r u' => r = .returned (.int .i64 v) ∧ ToG w0 u m gm S [(g, x')] G (fun y => y = cb) u' ∧ Box u' cb #[.int .i64 1] 3 ∧ Box u' tb #[ptr g] 35 ∧ Box u' ab #[.int .i64 v] 23 := by
  have n1 : tb ≠ cb := bt.ne bc (by decide)
  have n2 : ab ≠ cb := ba.ne bc (by decide)
  have q1 : ¬ cb = tb := fun e => n1 e.symm
  have cc := bc.cell 0
  have fc := bc.frozen 0
  have c1 := (bt.other cb 0 (.int .i64 1) n1).cell 0
  have c0 := bt.cell 0
  simp only [List.getElem?_toArray, List.getElem?_cons_zero] at c1 cc c0
  have hg1 := h.store hGc h0 0 (.int .i64 1)
  have t1 : ToG w0 u m gm S [(g, x)] G (fun y => y = cb) (u.setCell ⟨cb, 0, none⟩ (.int .i64 1)) := ⟨hg1.wide (fun z hz => .inl hz) (fun z hz => hz.elim hg1.gB (fun e => by have := e.1; have := e.2; simp at this; omega)), by simp, fun z _ hn => heap_setCell_other u _ z _ (show z ≠ cb from fun e => hn (.inr e))⟩
  have cw := hg_write (V := fun _ => False) t1.has 1 1 he
  have HA : Hid (∀ u1, ToG w0 (u.setCell ⟨cb, 0, none⟩ (.int .i64 1)) m gm S [(g, x')] (grow G u (u.setCell ⟨cb, 0, none⟩ (.int .i64 1))) (fun _ => False) u1 → u1.cell? ⟨ab, 0, none⟩ = some (.int .i64 v) ∧ (ToG w0 u m gm S [(g, x')] G (fun y => y = cb) u1 ∧ Box u1 cb #[.int .i64 1] 3 ∧ Box u1 tb #[ptr g] 35 ∧ Box u1 ab #[.int .i64 v] 23)) := fun u1 t => by
    have ng : ∀ {y : Nat}, ¬ G y → y < u.heap.size → ¬ (grow G u (u.setCell ⟨cb, 0, none⟩ (.int .i64 1)) y ∨ False) := fun h1 h2 hn => hn.elim (fun hg => hg.elim h1 (fun e => by omega)) (fun hf => hf)
    have b1 := Box.upd (bc.store 0 (.int .i64 1)) t.upd (ng hGc bc.lt)
    have b2 := Box.upd (bt.other cb 0 (.int .i64 1) n1) t.upd (ng hGt bt.lt)
    have b3 := Box.upd (ba.other cb 0 (.int .i64 1) n2) t.upd (ng hG ba.lt)
    exact ⟨b3.cell 0, t1.trans (t.wide (fun _ hf => hf.elim)), b1, b2, b3⟩
  clear h bt ba hg1 bc t1
  unfold ptr at *
  go_enter Tryz.func25, Tryz.ntmps25
  go_wp2_with (go_at_call 24; refine cw.mono ?_; rintro e' u1 ⟨rfl, k⟩; have ca := (HA.out u1 k).1; have K := HA.out u1 k; have KK : Hid (ToG w0 u m gm S [(g, x')] G (fun y => y = cb) u1 ∧ Box u1 cb #[.int .i64 1] 3 ∧ Box u1 tb #[.pointer (some ⟨g, 0, none⟩)] 35 ∧ Box u1 ab #[.int .i64 v] 23) := K.2; clear k K)
  go_ret
  exact ⟨rfl, KK.out⟩
end
end Go.Proofs.YtafiopjgegmfoaaGreat.W
namespace Go.Proofs.YtafiopjgegmfoaaGreat.W
open Go.RowKit Go.Maps Go.Proofs.YtafiopjgegmfoaaGreat Go.Proofs.YtafiopjgegmfoaaGreat.C Go.Proofs.YtafiopjgegmfoaaGreat.T
def eS : M := C.M0 2
def eX (R W : List (Int × Int)) : TX := ⟨1, 0, ⟨R, W, []⟩, 1, [], 0, false⟩
def eO (i : Int) : TX := ⟨1, 0, ⟨[], [(i, 1)], [[]]⟩, 1, [], 0, false⟩
/-- what a scope leaves that has written cell i and told e -/
def fx (e i : Int) : TX := if e = 0 then eX [] [(i, 1)] else eX [] []
theorem eW0 : (eX [] []).open1.write eS 0 1 = (0, eO 0) := rfl
theorem eW1 : (eX [] []).open1.write eS 1 1 = (0, eO 1) := rfl
theorem eShut (i e : Int) : (eO i).shut 1 e = fx e i := by
  unfold TX.shut fx
  rw [if_neg (by simp [eO]), if_neg (by simp [eO])]
  unfold TX.cut
  by_cases h : e = 0
  · rw [if_pos (.inl h), if_pos h]
    rfl
  · rw [if_neg (by intro k; rcases k with k | k; exact h k; exact absurd k (by simp [eO])), if_neg h]
    rfl
theorem eShutE (i e : Int) : (eO i).shutE 1 e = e := by
  unfold TX.shutE
  rw [if_neg (by simp [eO]), if_neg (by simp [eO])]
theorem fx_st (e i : Int) : (fx e i).st = 1 := by unfold fx; split <;> rfl
section
variable {w0 u u' : World} {m gm g tb cb ab bb : Nat}
theorem enter23 : ∀ args w, (callFunc 23 args).run Tryz.prog w = .ok (.enter 23 args) w := enters_of Tryz.func23 (by kernel_rfl) rfl
theorem enter25 : ∀ args w, (callFunc 25 args).run Tryz.prog w = .ok (.enter 25 args) w := enters_of Tryz.func25 (by kernel_rfl) rfl
def eK (tb cb ab bb g : Nat) (a b k : Int) : Own := [(tb, #[ptr g], 35), (cb, #[.int .i64 k], 3), (ab, #[.int .i64 a], 23), (bb, #[.int .i64 b], 23)]
theorem el_or {a b : Int} (h : Hb w0 u m gm eS [(g, eX [] [])] (eK tb cb ab bb g a b 0)) :
    Calls Tryz.prog 15 #[ptr g, .func (.func 23) #[] #[ptr tb, ptr ab], .func (.func 25) #[] #[ptr cb, ptr tb, ptr bb]] u fun r u' => r = .returned (.int .i64 (if a = 135 then b else a)) ∧ Hb w0 u' m gm eS [(g, if a = 135 then fx b 1 else fx a 0)] (eK tb cb ab bb g a b (if a = 135 then 1 else 0)) := by
  have h1 := h.box #[ptr g] 35
  obtain ⟨F, hx⟩ := h.isX
  have c1 := h1.scope (e := a) (S2 := eS) (x2 := eO 0) (K2 := (u.heap.size, #[ptr g], 35) :: eK tb cb ab bb g a b 0) rfl (by decide) (fun _ => False) (fun _ hf => hf.elim) 23 #[ptr tb, ptr ab] enter23 (fun b hb => ⟨b, hb, rfl⟩) (fun u1 G1 hg hb => by
    have ba := hb (ab, #[.int .i64 a], 23) (by simp [eK])
    have bt := hb (tb, #[ptr g], 35) (by simp [eK])
    refine (bk23_at (V := fun _ => False) hg bt.1 ba.1 ba.2.1 (fun hf => hf) eW0).mono ?_
    rintro r u2 ⟨rfl, t⟩
    exact ⟨rfl, t, fun b hk => Box.upd (hb b hk).1 t.upd (fun hn => hn.elim (hb b hk).2.1 (fun hf => hf))⟩)
  rw [show (eX [] []).S.M.length + 1 = 1 from rfl, eShut, eShutE] at c1
  have c := orElse_at (A := fun e u' => e = a ∧ Hb w0 u' m gm eS [(g, fx a 0)] ((u.heap.size, #[ptr g], 35) :: eK tb cb ab bb g a b 0)) (Q := fun r u' => r = .returned (.int .i64 (if a = 135 then b else a)) ∧ Hb w0 u' m gm eS [(g, if a = 135 then fx b 1 else fx a 0)] (eK tb cb ab bb g a b (if a = 135 then 1 else 0))) (f2 := 25) (caps2 := #[ptr cb, ptr tb, ptr bb]) hx
    (c1.mono fun r u' ⟨p, q⟩ => ⟨a, p, q.own (List.mem_cons_self ..), rfl, q⟩) (fun e u' ⟨he, h'⟩ => ⟨1, ?_, fun e1 _ => ?_, fun hn => ?_⟩)
  · exact c.mono fun r u' ⟨_, _, hq⟩ => hq
  · have := h'.status (j := 0) rfl
    rw [fx_st] at this
    exact this
  · obtain rfl : a = 135 := by omega
    rw [if_pos rfl, if_pos rfl, if_pos rfl]
    have h2 : Hb w0 u' m gm eS [(g, eX [] [])] (eK tb cb ab bb g 135 b 0) := h'.less (fun b hb => List.mem_cons_of_mem _ hb)
    have c2 := h2.scope (e := b) (S2 := eS) (x2 := eO 1) (K2 := eK tb cb ab bb g 135 b 1) rfl (by decide) (fun y => y = cb) (fun y hy => by rw [hy]; exact (h2.own (b := cb) (cs := #[.int .i64 0]) (t := 3) (by simp [eK])).lt) 25 #[ptr cb, ptr tb, ptr bb] enter25 (fun q hb => by
        simp only [eK, List.mem_cons, List.not_mem_nil, or_false] at hb
        rcases hb with rfl | rfl | rfl | rfl
        · exact ⟨(tb, #[ptr g], 35), by simp [eK], rfl⟩
        · exact ⟨(cb, #[.int .i64 0], 3), by simp [eK], rfl⟩
        · exact ⟨(ab, #[.int .i64 135], 23), by simp [eK], rfl⟩
        · exact ⟨(bb, #[.int .i64 b], 23), by simp [eK], rfl⟩) (fun u1 G1 hg hb => by
        have ba := hb (bb, #[.int .i64 b], 23) (by simp [eK])
        have bq := hb (ab, #[.int .i64 135], 23) (by simp [eK])
        have bt := hb (tb, #[ptr g], 35) (by simp [eK])
        have bc := hb (cb, #[.int .i64 0], 3) (by simp [eK])
        refine (bk25_at hg bc.1 bt.1 ba.1 bc.2.1 ba.2.1 bt.2.1 bc.2.2 eW1).mono ?_
        rintro r u2 ⟨rfl, t, q1, q2, q3⟩
        refine ⟨rfl, t, fun b hk => ?_⟩
        simp only [eK, List.mem_cons, List.not_mem_nil, or_false] at hk
        rcases hk with rfl | rfl | rfl | rfl
        · exact q2
        · exact q1
        · exact Box.upd bq.1 t.upd (fun hn => hn.elim bq.2.1 (fun e => bq.1.ne bc.1 (show (23 : Nat) ≠ 3 by decide) e))
        · exact q3)
    rw [show (eX [] []).S.M.length + 1 = 1 from rfl, eShut, eShutE] at c2
    exact c2.mono fun r u' ⟨p, q⟩ => ⟨b, p, p, q⟩
  · have ha : ¬ a = 135 := fun e' => hn ⟨by omega, rfl⟩
    rw [if_neg ha, if_neg ha, if_neg ha]
    exact ⟨by rw [he], h'.less (fun b hb => List.mem_cons_of_mem _ hb)⟩
theorem eR1 : (eX [] [(0, 1)]).read eS 0 = (1, 0, eS, eX [] [(0, 1)]) := rfl
theorem eR2 : (eX [] [(0, 1)]).read eS 1 = (0, 0, eS, eX [(1, 0)] [(0, 1)]) := rfl
theorem eR3 : (eX [] []).read eS 0 = (0, 0, eS, eX [(0, 0)] []) := rfl
theorem eR4 : (eX [(0, 0)] []).read eS 1 = (0, 0, eS, eX [(0, 0), (1, 0)] []) := rfl
theorem eR5 : (eX [] [(1, 1)]).read eS 0 = (0, 0, eS, eX [(0, 0)] [(1, 1)]) := rfl
theorem eR6 : (eX [(0, 0)] [(1, 1)]).read eS 1 = (1, 0, eS, eX [(0, 0)] [(1, 1)]) := rfl
set_option maxHeartbeats 4000000 in
set_option maxRecDepth 100000 in
theorem else_at (a b : Int) (w : World) : Calls Tryz.prog 5 #[.int .i64 a, .int .i64 b] w fun r w' => r = .returned (.bool true) ∧ Below w.heap.size w w' := by
  have hmf : ∀ (fn : Fn) (first cap : Array Value) (w : World), (Instr.makeFunc fn first cap).run Tryz.prog w = .ok (.func fn first cap) w := fun _ _ _ _ => rfl
  have cn := hg_new (n := 2) (w0 := w) (Below.refl _ _) (by omega) (by omega)
  unfold ptr at cn
  go_enter Tryz.func5, Tryz.ntmps5
  go_wp2_with fail
  refine Calls.mono cn ?_
  rintro e w1 ⟨m, gm, rfl, h, _⟩
  have c2 := h.begin (V := fun _ => False) 1 (by omega) (by omega)
  unfold ptr at c2
  clear h cn
  go_wp2_with fail
  refine Calls.mono c2 ?_
  rintro e w2 ⟨g, rfl, t⟩
  have h0 : Hb w w2 m gm eS [(g, eX [] [])] [] := ⟨_, t.has, fun b hb => by cases hb⟩
  have s1 : (w2.alloc (.cells #[ptr g] 35)).heap.size = w2.heap.size + 1 := by simp
  have s2 : ((w2.alloc (.cells #[ptr g] 35)).alloc (.cells #[.int .i64 0] 3)).heap.size = w2.heap.size + 1 + 1 := by simp
  have s3 : (((w2.alloc (.cells #[ptr g] 35)).alloc (.cells #[.int .i64 0] 3)).alloc (.cells #[.int .i64 a] 23)).heap.size = w2.heap.size + 1 + 1 + 1 := by simp
  have h4 := (((h0.box #[ptr g] 35).box #[.int .i64 0] 3).box #[.int .i64 a] 23).box #[.int .i64 b] 23
  rw [s1, s2, s3] at h4
  have H4 : Hid (Hb w ((((w2.alloc (.cells #[ptr g] 35)).alloc (.cells #[.int .i64 0] 3)).alloc (.cells #[.int .i64 a] 23)).alloc (.cells #[.int .i64 b] 23)) m gm eS [(g, eX [] [])] (eK w2.heap.size (w2.heap.size + 1) (w2.heap.size + 1 + 1) (w2.heap.size + 1 + 1 + 1) g a b 0)) := h4.less (fun b hb => by
    simp only [eK, List.mem_cons, List.not_mem_nil, or_false] at hb
    rcases hb with rfl | rfl | rfl | rfl <;> simp)
  have cO := el_or H4.out
  have ct : ((((w2.alloc (.cells #[ptr g] 35)).alloc (.cells #[.int .i64 0] 3)).alloc (.cells #[.int .i64 a] 23)).alloc (.cells #[.int .i64 b] 23)).cell? ⟨w2.heap.size, 0, none⟩ = some (ptr g) := (H4.out.own (b := w2.heap.size) (cs := #[ptr g]) (t := 35) (by simp [eK])).cell 0
  unfold ptr at cO ct
  clear h0 s1 s2 s3 h4 t c2
  go_wp2_with fail
  generalize ((((w2.alloc (.cells #[.pointer (some ⟨g, 0, none⟩)] 35)).alloc (.cells #[.int .i64 0] 3)).alloc (.cells #[.int .i64 a] 23)).alloc (.cells #[.int .i64 b] 23)) = w6 at *
  generalize w2.heap.size + 1 + 1 + 1 = bb at *
  generalize w2.heap.size + 1 + 1 = ab at *
  generalize w2.heap.size + 1 = cb at *
  generalize w2.heap.size = tb at *
  clear ct H4
  by_cases a0 : a = 0
  · subst a0
    have cP : Calls Tryz.prog 15 #[.pointer (some ⟨g, 0, none⟩), .func (.func 23) #[] #[.pointer (some ⟨tb, 0, none⟩), .pointer (some ⟨ab, 0, none⟩)], .func (.func 25) #[] #[.pointer (some ⟨cb, 0, none⟩), .pointer (some ⟨tb, 0, none⟩), .pointer (some ⟨bb, 0, none⟩)]] w6 fun r u' => r = .returned (.int .i64 0) ∧ Hb w u' m gm eS [(g, eX [] [(0, 1)])] (eK tb cb ab bb g 0 b 0) := by
      have cO' := cO
      simp only [show ¬ ((0 : Int) = 135) by decide, if_false, show fx 0 0 = eX [] [(0, 1)] from rfl] at cO'
      exact cO'
    clear cO
    refine cP.mono ?_
    rintro e w7 ⟨rfl, h⟩
    have ct := (h.own (b := tb) (cs := #[ptr g]) (t := 35) (by simp [eK])).cell 0
    have cc := (h.own (b := cb) (cs := #[.int .i64 0]) (t := 3) (by simp [eK])).cell 0
    have ca := (h.own (b := ab) (cs := #[.int .i64 0]) (t := 23) (by simp [eK])).cell 0
    have cb' := (h.own (b := bb) (cs := #[.int .i64 b]) (t := 23) (by simp [eK])).cell 0
    simp only [List.getElem?_toArray, List.getElem?_cons_zero] at ct cc ca cb'
    have c5 := h.read (j := 0) rfl 0 (WalkArith.wf_i64 (by omega)) eR1
    unfold ptr at c5 ct
    clear h cP
    go_wp2_with fail
    refine Calls.mono c5 ?_
    rintro e w8 ⟨rfl, h⟩
    have ct := (h.own (b := tb) (cs := #[ptr g]) (t := 35) (by simp [eK])).cell 0
    simp only [List.getElem?_toArray, List.getElem?_cons_zero] at ct
    have c6 := h.read (j := 0) rfl 1 (WalkArith.wf_i64 (by omega)) eR2
    unfold ptr at c6 ct
    clear h c5
    go_wp2_with fail
    refine Calls.mono c6 ?_
    rintro e w9 ⟨rfl, h⟩
    have ct := (h.own (b := tb) (cs := #[ptr g]) (t := 35) (by simp [eK])).cell 0
    have cc := (h.own (b := cb) (cs := #[.int .i64 0]) (t := 3) (by simp [eK])).cell 0
    have ca := (h.own (b := ab) (cs := #[.int .i64 0]) (t := 23) (by simp [eK])).cell 0
    have cb' := (h.own (b := bb) (cs := #[.int .i64 b]) (t := 23) (by simp [eK])).cell 0
    simp only [List.getElem?_toArray, List.getElem?_cons_zero] at ct cc ca cb'
    have cd := h.depth (j := 0) rfl
    have HB : Hid (Below w.heap.size w w9) := h.bel
    simp only [show (eX [(1, 0)] [(0, 1)]).S.M.length = 0 from rfl] at cd
    unfold ptr at cd ct
    clear h c6
    go_wp2_with fail
    refine Calls.mono cd ?_
    rintro e wx ⟨rfl, hwx⟩
    subst wx
    have k12 := awake18_at w9
    clear cd
    go_wp2_with fail
    refine Calls.mono k12 ?_
    rintro e w10 ⟨rfl, hb10⟩
    have H10 : Hid (Below w.heap.size w w10) := HB.out.trans (hb10.mono HB.out.size)
    clear k12 hb10
    go_wp2_with fail
    go_ret
    exact ⟨rfl, H10.out⟩
  by_cases a1 : a = 135
  · subst a1
    by_cases b0 : b = 0
    · subst b0
      have cP : Calls Tryz.prog 15 #[.pointer (some ⟨g, 0, none⟩), .func (.func 23) #[] #[.pointer (some ⟨tb, 0, none⟩), .pointer (some ⟨ab, 0, none⟩)], .func (.func 25) #[] #[.pointer (some ⟨cb, 0, none⟩), .pointer (some ⟨tb, 0, none⟩), .pointer (some ⟨bb, 0, none⟩)]] w6 fun r u' => r = .returned (.int .i64 0) ∧ Hb w u' m gm eS [(g, eX [] [(1, 1)])] (eK tb cb ab bb g 135 0 1) := by
        have cO' := cO
        simp only [if_true, show fx 0 1 = eX [] [(1, 1)] from rfl] at cO'
        exact cO'
      clear cO
      refine cP.mono ?_
      rintro e w7 ⟨rfl, h⟩
      have ct := (h.own (b := tb) (cs := #[ptr g]) (t := 35) (by simp [eK])).cell 0
      have cc := (h.own (b := cb) (cs := #[.int .i64 1]) (t := 3) (by simp [eK])).cell 0
      have ca := (h.own (b := ab) (cs := #[.int .i64 135]) (t := 23) (by simp [eK])).cell 0
      have cb' := (h.own (b := bb) (cs := #[.int .i64 0]) (t := 23) (by simp [eK])).cell 0
      simp only [List.getElem?_toArray, List.getElem?_cons_zero] at ct cc ca cb'
      have c5 := h.read (j := 0) rfl 0 (WalkArith.wf_i64 (by omega)) eR5
      unfold ptr at c5 ct
      clear h cP
      go_wp2_with fail
      refine Calls.mono c5 ?_
      rintro e w8 ⟨rfl, h⟩
      have ct := (h.own (b := tb) (cs := #[ptr g]) (t := 35) (by simp [eK])).cell 0
      simp only [List.getElem?_toArray, List.getElem?_cons_zero] at ct
      have c6 := h.read (j := 0) rfl 1 (WalkArith.wf_i64 (by omega)) eR6
      unfold ptr at c6 ct
      clear h c5
      go_wp2_with fail
      refine Calls.mono c6 ?_
      rintro e w9 ⟨rfl, h⟩
      have ct := (h.own (b := tb) (cs := #[ptr g]) (t := 35) (by simp [eK])).cell 0
      have cc := (h.own (b := cb) (cs := #[.int .i64 1]) (t := 3) (by simp [eK])).cell 0
      have ca := (h.own (b := ab) (cs := #[.int .i64 135]) (t := 23) (by simp [eK])).cell 0
      have cb' := (h.own (b := bb) (cs := #[.int .i64 0]) (t := 23) (by simp [eK])).cell 0
      simp only [List.getElem?_toArray, List.getElem?_cons_zero] at ct cc ca cb'
      have cd := h.depth (j := 0) rfl
      have HB : Hid (Below w.heap.size w w9) := h.bel
      simp only [show (eX [(0, 0)] [(1, 1)]).S.M.length = 0 from rfl] at cd
      unfold ptr at cd ct
      clear h c6
      go_wp2_with fail
      refine Calls.mono cd ?_
      rintro e wx ⟨rfl, hwx⟩
      subst wx
      have k12 := awake18_at w9
      clear cd
      go_wp2_with fail
      refine Calls.mono k12 ?_
      rintro e w10 ⟨rfl, hb10⟩
      have H10 : Hid (Below w.heap.size w w10) := HB.out.trans (hb10.mono HB.out.size)
      clear k12 hb10
      go_wp2_with fail
      go_ret
      exact ⟨rfl, H10.out⟩
    · have b0' : (b == 0) = false := by simpa using b0
      have hf : fx b 1 = eX [] [] := if_neg b0
      have cP : Calls Tryz.prog 15 #[.pointer (some ⟨g, 0, none⟩), .func (.func 23) #[] #[.pointer (some ⟨tb, 0, none⟩), .pointer (some ⟨ab, 0, none⟩)], .func (.func 25) #[] #[.pointer (some ⟨cb, 0, none⟩), .pointer (some ⟨tb, 0, none⟩), .pointer (some ⟨bb, 0, none⟩)]] w6 fun r u' => r = .returned (.int .i64 b) ∧ Hb w u' m gm eS [(g, eX [] [])] (eK tb cb ab bb g 135 b 1) := by
        have cO' := cO
        simp only [if_true, hf] at cO'
        exact cO'
      clear cO
      refine cP.mono ?_
      rintro e w7 ⟨rfl, h⟩
      have ct := (h.own (b := tb) (cs := #[ptr g]) (t := 35) (by simp [eK])).cell 0
      have cc := (h.own (b := cb) (cs := #[.int .i64 1]) (t := 3) (by simp [eK])).cell 0
      have ca := (h.own (b := ab) (cs := #[.int .i64 135]) (t := 23) (by simp [eK])).cell 0
      have cb' := (h.own (b := bb) (cs := #[.int .i64 b]) (t := 23) (by simp [eK])).cell 0
      simp only [List.getElem?_toArray, List.getElem?_cons_zero] at ct cc ca cb'
      have c5 := h.read (j := 0) rfl 0 (WalkArith.wf_i64 (by omega)) eR3
      unfold ptr at c5 ct
      clear h cP
      go_wp2_with fail
      refine Calls.mono c5 ?_
      rintro e w8 ⟨rfl, h⟩
      have ct := (h.own (b := tb) (cs := #[ptr g]) (t := 35) (by simp [eK])).cell 0
      simp only [List.getElem?_toArray, List.getElem?_cons_zero] at ct
      have c6 := h.read (j := 0) rfl 1 (WalkArith.wf_i64 (by omega)) eR4
      unfold ptr at c6 ct
      clear h c5
      go_wp2_with fail
      refine Calls.mono c6 ?_
      rintro e w9 ⟨rfl, h⟩
      have ct := (h.own (b := tb) (cs := #[ptr g]) (t := 35) (by simp [eK])).cell 0
      have cc := (h.own (b := cb) (cs := #[.int .i64 1]) (t := 3) (by simp [eK])).cell 0
      have ca := (h.own (b := ab) (cs := #[.int .i64 135]) (t := 23) (by simp [eK])).cell 0
      have cb' := (h.own (b := bb) (cs := #[.int .i64 b]) (t := 23) (by simp [eK])).cell 0
      simp only [List.getElem?_toArray, List.getElem?_cons_zero] at ct cc ca cb'
      have cd := h.depth (j := 0) rfl
      have HB : Hid (Below w.heap.size w w9) := h.bel
      simp only [show (eX [(0, 0), (1, 0)] []).S.M.length = 0 from rfl] at cd
      unfold ptr at cd ct
      clear h c6
      go_wp2_with fail
      refine Calls.mono cd ?_
      rintro e wx ⟨rfl, hwx⟩
      subst wx
      have k12 := awake18_at w9
      clear cd
      go_wp2_with fail
      refine Calls.mono k12 ?_
      rintro e w10 ⟨rfl, hb10⟩
      have H10 : Hid (Below w.heap.size w w10) := HB.out.trans (hb10.mono HB.out.size)
      clear k12 hb10
      go_wp2_with fail
      go_ret
      exact ⟨rfl, H10.out⟩
  · have a0' : (a == 0) = false := by simpa using a0
    have a1' : (a == 135) = false := by simpa using a1
    have hf : fx a 0 = eX [] [] := if_neg a0
    have cP : Calls Tryz.prog 15 #[.pointer (some ⟨g, 0, none⟩), .func (.func 23) #[] #[.pointer (some ⟨tb, 0, none⟩), .pointer (some ⟨ab, 0, none⟩)], .func (.func 25) #[] #[.pointer (some ⟨cb, 0, none⟩), .pointer (some ⟨tb, 0, none⟩), .pointer (some ⟨bb, 0, none⟩)]] w6 fun r u' => r = .returned (.int .i64 a) ∧ Hb w u' m gm eS [(g, eX [] [])] (eK tb cb ab bb g a b 0) := by
      have cO' := cO
      simp only [if_neg a1, hf] at cO'
      exact cO'
    clear cO
    refine cP.mono ?_
    rintro e w7 ⟨rfl, h⟩
    have ct := (h.own (b := tb) (cs := #[ptr g]) (t := 35) (by simp [eK])).cell 0
    have cc := (h.own (b := cb) (cs := #[.int .i64 0]) (t := 3) (by simp [eK])).cell 0
    have ca := (h.own (b := ab) (cs := #[.int .i64 a]) (t := 23) (by simp [eK])).cell 0
    have cb' := (h.own (b := bb) (cs := #[.int .i64 b]) (t := 23) (by simp [eK])).cell 0
    simp only [List.getElem?_toArray, List.getElem?_cons_zero] at ct cc ca cb'
    have c5 := h.read (j := 0) rfl 0 (WalkArith.wf_i64 (by omega)) eR3
    unfold ptr at c5 ct
    clear h cP
    go_wp2_with fail
    refine Calls.mono c5 ?_
    rintro e w8 ⟨rfl, h⟩
    have ct := (h.own (b := tb) (cs := #[ptr g]) (t := 35) (by simp [eK])).cell 0
    simp only [List.getElem?_toArray, List.getElem?_cons_zero] at ct
    have c6 := h.read (j := 0) rfl 1 (WalkArith.wf_i64 (by omega)) eR4
    unfold ptr at c6 ct
    clear h c5
    go_wp2_with fail
    refine Calls.mono c6 ?_
    rintro e w9 ⟨rfl, h⟩
    have ct := (h.own (b := tb) (cs := #[ptr g]) (t := 35) (by simp [eK])).cell 0
    have cc := (h.own (b := cb) (cs := #[.int .i64 0]) (t := 3) (by simp [eK])).cell 0
    have ca := (h.own (b := ab) (cs := #[.int .i64 a]) (t := 23) (by simp [eK])).cell 0
    have cb' := (h.own (b := bb) (cs := #[.int .i64 b]) (t := 23) (by simp [eK])).cell 0
    simp only [List.getElem?_toArray, List.getElem?_cons_zero] at ct cc ca cb'
    have cd := h.depth (j := 0) rfl
    have HB : Hid (Below w.heap.size w w9) := h.bel
    simp only [show (eX [(0, 0), (1, 0)] []).S.M.length = 0 from rfl] at cd
    unfold ptr at cd ct
    clear h c6
    go_wp2_with fail
    refine Calls.mono cd ?_
    rintro e wx ⟨rfl, hwx⟩
    subst wx
    have k12 := awake18_at w9
    clear cd
    go_wp2_with fail
    refine Calls.mono k12 ?_
    rintro e w10 ⟨rfl, hb10⟩
    have H10 : Hid (Below w.heap.size w w10) := HB.out.trans (hb10.mono HB.out.size)
    clear k12 hb10
    go_wp2_with fail
    go_ret
    exact ⟨rfl, H10.out⟩
end
end Go.Proofs.YtafiopjgegmfoaaGreat.W
