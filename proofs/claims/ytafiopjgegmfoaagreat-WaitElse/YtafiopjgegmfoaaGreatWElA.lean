/-
  WaitElse: two functions, one after the other.
-/
import Derived.Test.YtafiopjgegmfoaaGreatWAwk
namespace Go.Proofs.YtafiopjgegmfoaaGreat.W
open Go.RowKit Go.Maps Go.Proofs.YtafiopjgegmfoaaGreat Go.Proofs.YtafiopjgegmfoaaGreat.C Go.Proofs.YtafiopjgegmfoaaGreat.T
/-- a memory, its transactions, and blocks of one's own -/
def Hb (w0 u : World) (m gm : Nat) (S : M) (l : List (Nat × TX)) (K : Own) : Prop := ∃ G, Hg w0 u m gm S l G ∧ ∀ b ∈ K, Box u b.1 b.2.1 b.2.2 ∧ ¬ G b.1 ∧ w0.heap.size ≤ b.1
section
variable {w0 u u' : World} {m gm g j tb cb ab bb : Nat} {S S' S2 : M} {l l' : List (Nat × TX)} {x x' x2 : TX} {G V : Nat → Prop} {v e : Int} {K K' K2 : Own}
theorem Hb.tx (_ : Hg w0 u m gm S l G) (hK : ∀ b ∈ K, Box u b.1 b.2.1 b.2.2 ∧ ¬ G b.1 ∧ w0.heap.size ≤ b.1) (t : ToG w0 u m gm S' l' G (fun _ => False) u') : Hb w0 u' m gm S' l' K :=
  ⟨_, t.has, fun b hb => by
    obtain ⟨b1, b2, b4⟩ := hK b hb
    exact ⟨(t.upd.2 _ b1.lt (fun hn => hn.elim b2 (fun hf => hf))).trans b1, fun hg => hg.elim b2 (fun hg => by have := b1.lt; omega), b4⟩⟩
theorem Hb.box (h : Hb w0 u m gm S l K) (cs : Array Value) (t : TypeId) : Hb w0 (u.alloc (.cells cs t)) m gm S l ((u.heap.size, cs, t) :: K) := by
  have hb : Below u.heap.size u (u.alloc (.cells cs t)) := (Below.refl _ _).alloc (Nat.le_refl _) _
  obtain ⟨G, h, hK⟩ := h
  refine ⟨G, h.below hb, fun b hk => ?_⟩
  rcases List.mem_cons.1 hk with rfl | hk
  · exact ⟨Box.new u cs t, fun hg => by have := h.lt hg; omega, h.mm.hB⟩
  · exact ⟨(hK b hk).1.below hb (hK b hk).1.lt, (hK b hk).2⟩
theorem Hb.own (h : Hb w0 u m gm S l K) {b : Nat} {cs : Array Value} {t : TypeId} (hk : (b, cs, t) ∈ K) : Box u b cs t := by
  obtain ⟨G, h, hK⟩ := h
  exact (hK _ hk).1
theorem Hb.less (h : Hb w0 u m gm S l K) {K' : Own} (hk : ∀ b ∈ K', b ∈ K) : Hb w0 u m gm S l K' := by
  obtain ⟨G, h, hK⟩ := h
  exact ⟨G, h, fun b hb => hK b (hk b hb)⟩
theorem Hb.bel (h : Hb w0 u m gm S l K) : Below w0.heap.size w0 u := by
  obtain ⟨G, h, _⟩ := h
  exact h.bel
theorem Hb.isX (h : Hb w0 u m gm S [(g, x)] K) : ∃ F, IsX u w0.heap.size g m x F := by
  obtain ⟨G, h, hK⟩ := h
  exact hg_isX (j := 0) h rfl
theorem Hb.status (h : Hb w0 u m gm S l K) (hj : l[j]? = some (g, x)) : Calls Tryz.prog 39 #[ptr g] u fun r u' => r = .returned (.int .u8 x.st) ∧ u' = u := by
  obtain ⟨G, h, hK⟩ := h
  exact h.status hj
theorem Hb.depth (h : Hb w0 u m gm S l K) (hj : l[j]? = some (g, x)) : Calls Tryz.prog 26 #[ptr g] u fun r u' => r = .returned (.int .i64 (x.S.M.length : Int)) ∧ u' = u := by
  obtain ⟨G, h, hK⟩ := h
  exact h.depth hj
theorem Hb.read (h : Hb w0 u m gm S l K) (hj : l[j]? = some (g, x)) (i : Int) (hi : (Lit.int .i64 i).wf = true) (he : x.read S i = (v, e, S', x')) : Calls Tryz.prog 18 #[ptr g, .int .i64 i] u fun r u' => r = .returned (.tuple #[.int .i64 v, .int .i64 e]) ∧ Hb w0 u' m gm S' (l.set j (g, x')) K := by
  obtain ⟨G, h, hK⟩ := h
  exact (h.read hj i hi he).mono fun r u' ⟨a, t⟩ => ⟨a, Hb.tx h hK t⟩
theorem Hb.scope (h : Hb w0 u m gm S [(g, x)] K) (hs : x.st = 1) (hd : x.S.M.length < 8) (V : Nat → Prop) (hV : ∀ y, V y → y < u.heap.size) (f : Nat) (caps : Array Value) (hin : ∀ args w, (callFunc f args).run Tryz.prog w = .ok (.enter f args) w) (hK2 : ∀ b ∈ K2, ∃ b' ∈ K, b'.1 = b.1)
    (hb : ∀ u1 G1, Hg w0 u1 m gm S [(g, x.open1)] G1 → (∀ b ∈ K, Box u1 b.1 b.2.1 b.2.2 ∧ ¬ G1 b.1 ∧ w0.heap.size ≤ b.1) → Calls Tryz.prog f caps u1 fun r u2 => r = .returned (.int .i64 e) ∧ ToG w0 u1 m gm S2 [(g, x2)] G1 V u2 ∧ ∀ b ∈ K2, Box u2 b.1 b.2.1 b.2.2) :
    Calls Tryz.prog 38 #[ptr g, .func (.func f) #[] caps] u fun r u' => r = .returned (.int .i64 (x2.shutE (x.S.M.length + 1) e)) ∧ Hb w0 u' m gm S2 [(g, x2.shut (x.S.M.length + 1) e)] K2 := by
  obtain ⟨G, h, hK⟩ := h
  have hB : Body w0 u m gm g S x.open1 G V f caps (fun e' S' y u2 => e' = e ∧ S' = S2 ∧ y = x2 ∧ ∀ b ∈ K2, Box u2 b.1 b.2.1 b.2.2) := fun u1 G1 hu k1 k2 hg1 => by
    refine (hb u1 G1 hg1 (fun b hk => ⟨Box.upd (hK b hk).1 hu (hK b hk).2.1, fun hg => (k2 _ hg).elim (hK b hk).2.1 (fun hl => by have := (hK b hk).1.lt; omega), (hK b hk).2.2⟩)).mono ?_
    rintro r u2 ⟨rfl, t, q⟩
    exact ⟨e, S2, x2, rfl, t, rfl, rfl, rfl, q⟩
  refine (scope_at h hs hd hV f caps hin _ hB).mono ?_
  rintro r u' ⟨e', S', y, u2, ⟨rfl, rfl, rfl, q⟩, rfl, t, hk⟩
  refine ⟨rfl, _, t.has, fun b hb => ?_⟩
  obtain ⟨b', hb', eb⟩ := hK2 b hb
  obtain ⟨q1, q2, q3⟩ := hK b' hb'
  rw [eb] at q1 q2 q3
  exact ⟨(hk _ q1.lt q2).trans (q b hb), fun hg => hg.elim q2 (fun hg => by have := q1.lt; omega), q3⟩
theorem bk23_at (h : Hg w0 u m gm S [(g, x)] G) (bt : Box u tb #[ptr g] 35) (ba : Box u ab #[.int .i64 v] 23) (hG : ¬ G ab) (hV : ¬ V ab) (he : x.write S 0 1 = (e, x')) : Calls Tryz.prog 23 #[ptr tb, ptr ab] u fun r u' => r = .returned (.int .i64 v) ∧ ToG w0 u m gm S [(g, x')] G V u' := by
  have c1 := bt.cell 0
  simp only [List.getElem?_toArray, List.getElem?_cons_zero] at c1
  have cw := hg_write (V := V) h 0 1 he
  have HA : Hid (∀ u1, ToG w0 u m gm S [(g, x')] G V u1 → u1.cell? ⟨ab, 0, none⟩ = some (.int .i64 v)) := fun u1 t => (Box.upd ba t.upd (fun hn => hn.elim hG hV)).cell 0
  clear h bt ba
  unfold ptr at *
  go_enter Tryz.func23, Tryz.ntmps23
  go_wp2_with (go_at_call 24; refine cw.mono ?_; rintro e' u1 ⟨rfl, k⟩; have K : Hid (ToG w0 u m gm S [(g, x')] G V u1) := k; have ca := HA.out u1 k; clear k)
  go_ret
  exact ⟨rfl, K.out⟩
theorem bk25_at (h : Hg w0 u m gm S [(g, x)] G) (bc : Box u cb #[.int .i64 0] 3) (bt : Box u tb #[ptr g] 35) (ba : Box u ab #[.int .i64 v] 23) (hGc : ¬ G cb) (hG : ¬ G ab) (hGt : ¬ G tb) (h0 : w0.heap.size ≤ cb) (he : x.write S 1 1 = (e, x')) : Calls Tryz.prog 25 #[ptr cb, ptr tb, ptr ab] u fun r u' => r = .returned (.int .i64 v) ∧ ToG w0 u m gm S [(g, x')] G (fun y => y = cb) u' ∧ Box u' cb #[.int .i64 1] 3 ∧ Box u' tb #[ptr g] 35 ∧ Box u' ab #[.int .i64 v] 23 := by
  have n1 : tb ≠ cb := bt.ne bc (by decide)
  have n2 : ab ≠ cb := ba.ne bc (by decide)
  have q1 : ¬ cb = tb := fun e => n1 e.symm
  have cc := bc.cell 0
  have fc := bc.frozen 0
  have c1 := (bt.other cb 0 (.int .i64 1) n1).cell 0
  have c0 := bt.cell 0
  simp only [List.getElem?_toArray, List.getElem?_cons_zero] at c1 cc c0
  have hg1 := h.store hGc h0 0 (.int .i64 1)
  have t1 : ToG w0 u m gm S [(g, x)] G (fun y => y = cb) (u.setCell ⟨cb, 0, none⟩ (.int .i64 1)) := ⟨hg1.wide (fun z hz => .inl hz) (fun z hz => hz.elim hg1.gB (fun e => by have := e.1; have := e.2; simp at this; omega)), by simp, fun z _ hn => heap_setCell_other u _ z _ (show z ≠ cb from fun e => hn (.inr e))⟩
  have cw := hg_write (V := fun _ => False) t1.has 1 1 he
  have HA : Hid (∀ u1, ToG w0 (u.setCell ⟨cb, 0, none⟩ (.int .i64 1)) m gm S [(g, x')] (grow G u (u.setCell ⟨cb, 0, none⟩ (.int .i64 1))) (fun _ => False) u1 → u1.cell? ⟨ab, 0, none⟩ = some (.int .i64 v) ∧ (ToG w0 u m gm S [(g, x')] G (fun y => y = cb) u1 ∧ Box u1 cb #[.int .i64 1] 3 ∧ Box u1 tb #[ptr g] 35 ∧ Box u1 ab #[.int .i64 v] 23)) := fun u1 t => by
    have ng : ∀ {y : Nat}, ¬ G y → y < u.heap.size → ¬ (grow G u (u.setCell ⟨cb, 0, none⟩ (.int .i64 1)) y ∨ False) := fun h1 h2 hn => hn.elim (fun hg => hg.elim h1 (fun e => by omega)) (fun hf => hf)
    have b1 := Box.upd (bc.store 0 (.int .i64 1)) t.upd (ng hGc bc.lt)
    have b2 := Box.upd (bt.other cb 0 (.int .i64 1) n1) t.upd (ng hGt bt.lt)
    have b3 := Box.upd (ba.other cb 0 (.int .i64 1) n2) t.upd (ng hG ba.lt)
    exact ⟨b3.cell 0, t1.trans (t.wide (fun _ hf => hf.elim)), b1, b2, b3⟩
  clear h bt ba hg1 bc t1
  unfold ptr at *
  go_enter Tryz.func25, Tryz.ntmps25
  go_wp2_with (go_at_call 24; refine cw.mono ?_; rintro e' u1 ⟨rfl, k⟩; have ca := (HA.out u1 k).1; have K := HA.out u1 k; have KK : Hid (ToG w0 u m gm S [(g, x')] G (fun y => y = cb) u1 ∧ Box u1 cb #[.int .i64 1] 3 ∧ Box u1 tb #[.pointer (some ⟨g, 0, none⟩)] 35 ∧ Box u1 ab #[.int .i64 v] 23) := K.2; clear k K)
  go_ret
  exact ⟨rfl, KK.out⟩
end
end Go.Proofs.YtafiopjgegmfoaaGreat.W
