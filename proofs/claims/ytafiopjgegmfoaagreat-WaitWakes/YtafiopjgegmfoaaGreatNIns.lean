/-
  inside: a body in a scope that was opened, which is closed behind it.
-/
import Derived.Test.YtafiopjgegmfoaaGreatNScope
namespace Go.Proofs.YtafiopjgegmfoaaGreat.T
open Go.RowKit Go.Proofs.YtafiopjgegmfoaaGreat.C
section
variable {w0 u : World} {m gm g : Nat} {S : M} {x : TX} {G V : Nat → Prop}
def in4 (u : World) (g : Nat) (d : Int) : World := (((u.alloc (.cells #[.pointer (some ⟨g, 0, none⟩)] 35)).alloc (.cells #[.int .i64 0] 23)).alloc (.cells #[.int .i64 d] 3)).alloc (.cells #[.int .i64 136] 23)
theorem in4_facts (u : World) (g : Nat) (d : Int) : (Box (in4 u g d) u.heap.size #[ptr g] 35 ∧ Box (in4 u g d) (u.heap.size + 1) #[.int .i64 0] 23 ∧ Box (in4 u g d) (u.heap.size + 1 + 1) #[.int .i64 d] 3 ∧ Box (in4 u g d) (u.heap.size + 1 + 1 + 1) #[.int .i64 136] 23) ∧ Below u.heap.size u (in4 u g d) ∧ (in4 u g d).heap.size = u.heap.size + 4 := by
  have s1 : (u.alloc (.cells #[.pointer (some ⟨g, 0, none⟩)] 35)).heap.size = u.heap.size + 1 := by simp
  have s2 : ((u.alloc (.cells #[.pointer (some ⟨g, 0, none⟩)] 35)).alloc (.cells #[.int .i64 0] 23)).heap.size = u.heap.size + 1 + 1 := by simp
  have s3 : (((u.alloc (.cells #[.pointer (some ⟨g, 0, none⟩)] 35)).alloc (.cells #[.int .i64 0] 23)).alloc (.cells #[.int .i64 d] 3)).heap.size = u.heap.size + 1 + 1 + 1 := by simp
  refine ⟨⟨?_, ?_, ?_, ?_⟩, ?_, ?_⟩
  · exact ((((Box.new u _ 35).alloc _).alloc _).alloc _)
  · have := ((Box.new (u.alloc (.cells #[.pointer (some ⟨g, 0, none⟩)] 35)) #[.int .i64 0] 23).alloc (.cells #[.int .i64 d] 3)).alloc (.cells #[.int .i64 136] 23)
    rw [s1] at this
    exact this
  · have := (Box.new ((u.alloc (.cells #[.pointer (some ⟨g, 0, none⟩)] 35)).alloc (.cells #[.int .i64 0] 23)) #[.int .i64 d] 3).alloc (.cells #[.int .i64 136] 23)
    rw [s2] at this
    exact this
  · have := Box.new (((u.alloc (.cells #[.pointer (some ⟨g, 0, none⟩)] 35)).alloc (.cells #[.int .i64 0] 23)).alloc (.cells #[.int .i64 d] 3)) #[.int .i64 136] 23
    rw [s3] at this
    exact this
  · exact ((((Below.refl u.heap.size u).alloc (Nat.le_refl _) _).alloc (by simp) _).alloc (by simp; omega) _).alloc (by simp; omega) _
  · simp [in4]
theorem inside_end {u4 u2 u5 : World} {S2 : M} {x2 x3 : TX} {e y : Int} (h : Hg w0 u m gm S [(g, x)] G) (h4 : Below u.heap.size u u4) (s4 : u4.heap.size = u.heap.size + 4)
    (k2 : ToG w0 u4 m gm S2 [(g, x2)] G V u2) (k5 : ToG w0 ((u2.setCell ⟨u.heap.size + 1 + 1 + 1, 0, none⟩ (.int .i64 e)).setCell ⟨u.heap.size + 1, 0, none⟩ (.int .i64 e)) m gm S2 [(g, x3)] (grow G u4 u2) (fun _ => False) u5) :
    ToG w0 u m gm S2 [(g, x3)] G V (u5.setCell ⟨u.heap.size + 1, 0, none⟩ (.int .i64 y)) ∧ ∀ k, k < u.heap.size → ¬ G k → (u5.setCell ⟨u.heap.size + 1, 0, none⟩ (.int .i64 y)).heap[k]? = u2.heap[k]? := by
  have hs2 := k2.upd.1
  have hs5 : u2.heap.size ≤ u5.heap.size := by have := k5.upd.1; simpa using this
  have h0 : w0.heap.size ≤ u.heap.size := h.mm.hB
  have hst : ∀ k, k < u.heap.size → ¬ G k → (u5.setCell ⟨u.heap.size + 1, 0, none⟩ (.int .i64 y)).heap[k]? = u2.heap[k]? := fun k hk hg => by
    rw [heap_setCell_other u5 _ k _ (show k ≠ u.heap.size + 1 by omega), k5.upd.2 k (by simp; omega) (fun hn => hn.elim (fun hn => hn.elim hg (fun hn => by omega)) id), heap_setCell_other _ _ k _ (show k ≠ u.heap.size + 1 by omega), heap_setCell_other _ _ k _ (show k ≠ u.heap.size + 1 + 1 + 1 by omega)]
  have hng : ∀ k, u.heap.size ≤ k → k < u.heap.size + 4 → ¬ grow (grow G u4 u2) ((u2.setCell ⟨u.heap.size + 1 + 1 + 1, 0, none⟩ (.int .i64 e)).setCell ⟨u.heap.size + 1, 0, none⟩ (.int .i64 e)) u5 k := fun k h1 h2 hn => by
    rcases hn with (hn | hn) | hn
    · have := h.lt hn; omega
    · omega
    · have := hn.1; simp at this; omega
  refine ⟨⟨?_, ?_⟩, hst⟩
  · have k6 := k5.has.store (k := u.heap.size + 1) (hng _ (by omega) (by omega)) (by omega) 0 (.int .i64 y)
    refine k6.wide (fun z hz => ?_) (fun z hz => ?_)
    · rcases hz with (hz | hz) | hz
      · exact .inl hz
      · exact .inr ⟨by omega, by simp; omega⟩
      · have h2 := hz.2
        have h1 := hz.1
        simp at h1
        exact .inr ⟨by omega, by simpa using h2⟩
    · rcases hz with hz | hz
      · have := h.gB hz
        exact ⟨this.1, by simp; omega⟩
      · exact ⟨by omega, hz.2⟩
  · refine ⟨by simp; omega, fun k hk hn => ?_⟩
    rw [hst k hk (fun hg => hn (.inl hg)), k2.upd.2 k (by omega) hn, h4.block k hk]
set_option maxHeartbeats 2000000 in
set_option maxRecDepth 20000 in
theorem inside_at (h : Hg w0 u m gm S [(g, x)] G) (h1 : 1 ≤ x.S.M.length) (hV : ∀ k, V k → k < u.heap.size) (f : Nat) (caps : Array Value) (hin : ∀ args w, (callFunc f args).run Tryz.prog w = .ok (.enter f args) w) (Q : Int → M → TX → World → Prop)
    (hb : ∀ u1, Below u.heap.size u u1 → Hg w0 u1 m gm S [(g, x)] G → Calls Tryz.prog f caps u1 fun r u2 => ∃ e S2 x2, r = .returned (.int .i64 e) ∧ ToG w0 u1 m gm S2 [(g, x2)] G V u2 ∧ Q e S2 x2 u2) :
    Calls Tryz.prog 61 #[ptr g, .func (.func f) #[] caps] u fun r u' => ∃ e S2 x2 u2, Q e S2 x2 u2 ∧ r = .returned (.int .i64 (x2.shutE x.S.M.length e)) ∧ ToG w0 u m gm S2 [(g, x2.shut x.S.M.length e)] G V u' ∧ ∀ k, k < u.heap.size → ¬ G k → u'.heap[k]? = u2.heap[k]? := by
  have hmf : ∀ (fn : Fn) (first cap : Array Value) (w : World), (Instr.makeFunc fn first cap).run Tryz.prog w = .ok (.func fn first cap) w := fun _ _ _ _ => rfl
  have CD : Hid (∀ u', Below u.heap.size u u' → Calls Tryz.prog 26 #[ptr g] u' fun r u2 => r = .returned (.int .i64 (x.S.M.length : Int)) ∧ u2 = u') := fun u' hb => (h.below hb).depth (j := 0) rfl
  have H : Hid (Hg w0 u m gm S [(g, x)] G ∧ 1 ≤ x.S.M.length ∧ ∀ k, V k → k < u.heap.size) := ⟨h, h1, hV⟩
  have B2 : Hid (Below u.heap.size u ((u.alloc (.cells #[.pointer (some ⟨g, 0, none⟩)] 35)).alloc (.cells #[.int .i64 0] 23))) := ((Below.refl u.heap.size u).alloc (Nat.le_refl _) _).alloc (by simp) _
  obtain ⟨⟨b1, b2, b3, b4⟩, hb4, s4⟩ := in4_facts u g (x.S.M.length : Int)
  have BX : Hid ((Box (in4 u g (x.S.M.length : Int)) u.heap.size #[ptr g] 35 ∧ Box (in4 u g (x.S.M.length : Int)) (u.heap.size + 1) #[.int .i64 0] 23 ∧ Box (in4 u g (x.S.M.length : Int)) (u.heap.size + 1 + 1) #[.int .i64 (x.S.M.length : Int)] 3 ∧ Box (in4 u g (x.S.M.length : Int)) (u.heap.size + 1 + 1 + 1) #[.int .i64 136] 23) ∧ Below u.heap.size u (in4 u g (x.S.M.length : Int)) ∧ (in4 u g (x.S.M.length : Int)).heap.size = u.heap.size + 4) := ⟨⟨b1, b2, b3, b4⟩, hb4, s4⟩
  have cb := hb _ hb4 (h.below hb4)
  obtain ⟨u4, hu4⟩ : ∃ u4, u4 = in4 u g (x.S.M.length : Int) := ⟨_, rfl⟩
  have HU4 : Hid (u4 = in4 u g (x.S.M.length : Int)) := hu4
  rw [← hu4] at BX cb
  clear b1 b2 b3 b4 hb4 s4 hb h h1 hV hu4
  generalize x.S.M.length = d at *
  unfold ptr at *
  go_enter_defers Tryz.func61, Tryz.ntmps61
  go_wp2_with fail
  refine (CD.out _ B2.out).mono ?_
  rintro e wx ⟨rfl, hwx⟩
  subst wx
  go_wp2_with fail
  unfold Hid in4 at HU4
  rw [← HU4]
  clear HU4 CD B2
  refine cb.mono ?_
  rintro r u2 ⟨e, S2, x2, rfl, k2, kq⟩
  have hs2 := k2.upd.1
  have hnG : Hid (∀ k, u.heap.size ≤ k → k < u.heap.size + 4 → ¬ (G k ∨ V k)) := fun k q1 q2 hn => by
    rcases hn with hn | hn
    · have := H.out.1.lt hn; omega
    · have := H.out.2.2 k hn; omega
  have B : Hid (Box u2 u.heap.size #[.pointer (some ⟨g, 0, none⟩)] 35 ∧ Box u2 (u.heap.size + 1) #[.int .i64 0] 23 ∧ Box u2 (u.heap.size + 1 + 1) #[.int .i64 (d : Int)] 3 ∧ Box u2 (u.heap.size + 1 + 1 + 1) #[.int .i64 136] 23) := ⟨Box.upd BX.out.1.1 k2.upd (hnG.out _ (by omega) (by omega)), Box.upd BX.out.1.2.1 k2.upd (hnG.out _ (by omega) (by omega)), Box.upd BX.out.1.2.2.1 k2.upd (hnG.out _ (by omega) (by omega)), Box.upd BX.out.1.2.2.2 k2.upd (hnG.out _ (by omega) (by omega))⟩
  have K2 : Hid (ToG w0 u4 m gm S2 [(g, x2)] G V u2 ∧ Q e S2 x2 u2) := ⟨k2, kq⟩
  have fo := B.out.2.2.2.frozen 0
  have co := B.out.2.2.2.cell 0
  have fe := B.out.2.1.frozen 0
  have ce := B.out.2.1.cell 0
  simp only [List.getElem?_toArray, List.getElem?_cons_zero] at co ce
  clear k2 kq cb hs2
  go_wp2_with fail
  have hs2 : u4.heap.size ≤ u2.heap.size := K2.out.1.upd.1
  have s4 := BX.out.2.2
  have hng : ∀ k, u.heap.size ≤ k → k < u.heap.size + 4 → ¬ grow G u4 u2 k := fun k q1 q2 hn => hn.elim (fun hn => hnG.out k q1 q2 (.inl hn)) (fun hn => by omega)
  have h0 : w0.heap.size ≤ u.heap.size := H.out.1.mm.hB
  have H3 : Hg w0 ((u2.setCell ⟨u.heap.size + 1 + 1 + 1, 0, none⟩ (.int .i64 e)).setCell ⟨u.heap.size + 1, 0, none⟩ (.int .i64 e)) m gm S2 [(g, x2)] (grow G u4 u2) := (K2.out.1.has.store (hng _ (by omega) (by omega)) (by omega) 0 (.int .i64 e)).store (hng _ (by omega) (by omega)) (by omega) 0 (.int .i64 e)
  obtain ⟨c1, c2, c3, c4⟩ := B.out
  have d1 := (c1.other (u.heap.size + 1 + 1 + 1) 0 (.int .i64 e) (by omega)).other (u.heap.size + 1) 0 (.int .i64 e) (by omega)
  have d2 := (c2.other (u.heap.size + 1 + 1 + 1) 0 (.int .i64 e) (by omega)).store 0 (.int .i64 e)
  have d3 := (c3.other (u.heap.size + 1 + 1 + 1) 0 (.int .i64 e) (by omega)).other (u.heap.size + 1) 0 (.int .i64 e) (by omega)
  have d4 := (c4.store 0 (.int .i64 e)).other (u.heap.size + 1) 0 (.int .i64 e) (by omega)
  have cl := shut_deferred H3 d H.out.2.1 e e d1 d3 d4 d2 (hng _ (by omega) (by omega)) .returning
  unfold ptr at cl
  refine leaves_cons (f := 74) (args := #[.pointer (some ⟨u.heap.size, 0, none⟩), .pointer (some ⟨u.heap.size + 1 + 1, 0, none⟩), .pointer (some ⟨u.heap.size + 1 + 1 + 1, 0, none⟩), .pointer (some ⟨u.heap.size + 1, 0, none⟩)]) (by simp) (by simp [go_sem]) ?_
  refine cl.mono ?_
  rintro r md u6 ⟨rfl, rfl, u5, k5, rfl⟩
  have hend := inside_end (y := x2.shutE d e) H.out.1 BX.out.2.1 s4 K2.out.1 k5
  have e5 : Box u5 (u.heap.size + 1) #[.int .i64 e] 23 := Box.upd d2 k5.upd (fun hn => hn.elim (hng _ (by omega) (by omega)) id)
  have e6 := (e5.store 0 (.int .i64 (x2.shutE d e))).cell 0
  simp only [List.setIfInBounds_toArray, List.set_cons_zero, List.getElem?_toArray, List.getElem?_cons_zero] at e6
  simp only [Leaves, settle]
  exact ⟨.int .i64 (x2.shutE d e), by simp [results, Tryz.results61, go_sem, e6], e, S2, x2, u2, K2.out.2, rfl, hend.1, hend.2⟩
end
end Go.Proofs.YtafiopjgegmfoaaGreat.T
