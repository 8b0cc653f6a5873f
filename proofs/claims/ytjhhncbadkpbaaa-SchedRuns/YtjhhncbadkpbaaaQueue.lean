/-
  queue, Add, Wake: tasks that get ready.
-/
import Derived.Test.YtjhhncbadkpbaaaSmall
namespace Go.Proofs.Ytjhhncbadkpbaaa
open Go.RowKit

theorem alv_cons (e : En) (E : List En) (g : Nat) (G : List Nat) : alv (e :: E) (g :: G) = if e.st = 3 then alv E G else g :: alv E G := by
  unfold alv
  rw [List.zip_cons_cons, List.filter_cons]
  by_cases h : e.st = 3
  · simp [h]
  · simp [h]
theorem alv_set : ∀ (E : List En) (G : List Nat) (i : Nat) (e e' : En), E[i]? = some e → e.st ≠ 3 → e'.st ≠ 3 → alv (E.set i e') G = alv E G
  | [], _, i, _, _, h, _, _ => by simp at h
  | x :: E, [], i, _, _, _, _, _ => by simp [alv]
  | x :: E, g :: G, 0, e, e', h, h1, h2 => by
    simp at h
    subst h
    rw [List.set_cons_zero, alv_cons, alv_cons, if_neg h1, if_neg h2]
  | x :: E, g :: G, i + 1, e, e', h, h1, h2 => by
    rw [List.set_cons_succ, alv_cons, alv_cons, alv_set E G i e e' (by simpa using h) h1 h2]
theorem alv_snoc : ∀ (E : List En) (G : List Nat) (e : En) (g : Nat), E.length = G.length → e.st ≠ 3 → alv (E ++ [e]) (G ++ [g]) = alv E G ++ [g]
  | [], [], e, g, _, h => by simp [alv, h]
  | [], _ :: _, _, _, h, _ => by simp at h
  | _ :: _, [], _, _, h, _ => by simp at h
  | x :: E, q :: G, e, g, h, h1 => by
    rw [List.cons_append, List.cons_append, alv_cons, alv_cons, alv_snoc E G e g (by simpa using h) h1]
    split <;> rfl
theorem alv_le : ∀ (E : List En) (G : List Nat), (alv E G).length ≤ G.length
  | [], _ => by simp [alv]
  | _ :: _, [] => by simp [alv]
  | x :: E, q :: G => by
    rw [alv_cons]
    have := alv_le E G
    split <;> simp <;> omega
theorem getD_at {G : List Nat} {i : Nat} (h : i < G.length) : G.getD i 0 = G[i] := by simp [h]
theorem infoP : (Try.prog.info? 61).map (fun i => (i.zero, i.size, i.bytes)) = some (some (.pointer none), 1, 8) := by kernel_rfl
theorem info_parts {P : Program} {T : TypeId} {z : Value} {n b : Nat} (h : (P.info? T).map (fun i => (i.zero, i.size, i.bytes)) = some (some z, n, b)) : ∃ i, P.info? T = some i ∧ i.zero = some z ∧ i.size = n ∧ i.bytes = b := by
  cases hh : P.info? T with
  | none => rw [hh] at h; cases h
  | some i =>
    rw [hh] at h
    simp at h
    exact ⟨i, rfl, h.1, h.2.1, h.2.2⟩
theorem one_cell {w : World} {G : Nat} {v : Value} {t : TypeId} (h : Box w G #[v] t) : ∀ (j : Nat) (u : Value), [v][j]? = some u → w.cell? ((⟨G, 0, none⟩ : Addr).add j) = some u := by
  intro j u hj
  match j, hj with
  | 0, hj => simp at hj; subst hj; rw [Addr.add_lit]; exact h.cell 0

def SS.ready (S : SS) (i : Nat) (e : En) : SS := { S with E := S.E.set i { e with st := 1 }, L := S.L ++ [i] }
set_option maxHeartbeats 1000000 in
theorem queue_at {w : World} {B s : Nat} {S : SS} (h : IsS w B s S) (i : Nat) (e : En) (he : S.E[i]? = some e) (h3 : e.st ≠ 3) (hl : S.L.length < 1000000) (hi : i < S.G.length) :
    Calls Try.prog 24 #[ptr s, ptr S.G[i]] w fun r w' => r = .returned (.tuple #[]) ∧ To w B s (S.ready i e) w' := by
  have hB := h.hB
  obtain ⟨vt, va, vl, h⟩ := h
  obtain ⟨i0, hi0, hz0, hz1, hz2⟩ := info_parts infoP
  have be := h.ents.en i hi e he
  obtain ⟨w1, hw1⟩ : ∃ w1, w1 = w.setCell ⟨S.G[i], 2, none⟩ (.int .u8 1) := ⟨_, rfl⟩
  have k1 : Kt (fun t => t ≠ 70) w w1 := by rw [hw1]; exact (Kt.refl _ _).setCell be (by simp) _ _
  have r1 : Rws w1 B s vt va vl S.nv S.wk S.G (alv S.E S.G) (S.L.map fun i => S.G.getD i 0) := h.rows.kt k1 (by decide) (by decide)
  have e1 : Ents w1 B S.G (S.E.set i { e with st := 1 }) := by rw [hw1]; exact h.ents.set i hi e { e with st := 1 } he 2 _ rfl
  have bl1 : Below B w w1 := by rw [hw1]; exact (Below.refl _ _).setCell (p := ⟨S.G[i], 2, none⟩) (h.ents.hG _ (List.getElem_mem _)) _
  have ce : w.cell? ⟨S.G[i], 2, none⟩ = some (.int .u8 (e.st : Int)) := be.cell 2
  have fe := be.frozen 2
  have c3 : w1.cell? ⟨s, 3, none⟩ = some vl := r1.box.cell 3
  have HW : Hid (Sh w B s S vt va vl) := h
  have HR : Hid (Rws w1 B s vt va vl S.nv S.wk S.G (alv S.E S.G) (S.L.map fun i => S.G.getD i 0)) := r1
  have HE : Hid (Ents w1 B S.G (S.E.set i { e with st := 1 })) := e1
  have HK : Hid (Kt (fun t => t ≠ 70) w w1) := k1
  have HBl : Hid (Below B w w1) := bl1
  have hx := Box.new w1 #[ptr S.G[i]] 61
  have own1 := r1.rl.alloc (.cells #[ptr S.G[i]] 61)
  have hsz : w.heap.size = w1.heap.size := by rw [hw1]; simp
  have HZ : Hid (w.heap.size = w1.heap.size) := hsz
  have HG : Hid (S.G.getD i 0 = S.G[i]) := getD_at hi
  obtain ⟨av, cv, hvl⟩ := ownsRow_slice r1.rl
  have hlen : (S.L.map fun i => S.G.getD i 0).length = S.L.length := by simp
  rw [hlen] at own1 hvl
  generalize hn : S.L.length = n at *
  have Hn : Hid (S.L.length = n) := hn
  clear hn
  generalize hq : S.G[i] = q at *
  have Hq : Hid (S.G[i] = q) := hq
  obtain ⟨xs, hxs⟩ : ∃ xs, xs = (S.L.map fun i => S.G.getD i 0).map ptr := ⟨_, rfl⟩
  rw [← hxs] at own1
  have Hxs : Hid (xs = (S.L.map fun i => S.G.getD i 0).map ptr) := hxs
  clear h r1 e1 k1 bl1 be hsz hq hlen hxs
  unfold ptr at *
  subst hvl
  have hw : w.setCell ⟨q, 2, none⟩ (.int .u8 1) = w1 := hw1.symm
  clear hw1
  go_enter Try.func24, Try.ntmps24
  go_wp2_with (at_builtin; refine wpList_append_own_at _ rfl _ _ 60 rfl B 61 i0 (.pointer none) 1 8 Try.underlying60 hi0 hz0 hz1 hz2 rfl (by decide) _ n _ rfl own1 ⟨w1.heap.size, 0, none⟩ 1 1 [.pointer (some ⟨q, 0, none⟩)] rfl rfl (one_cell hx) ?c2 ?c3 ?c4 ?c5 ?_)
  case c2 => intro u hu; simp at hu; subst hu; rfl
  case c3 => unfold maxLen; omega
  case c4 => omega
  case c5 => have := HZ.out; simp; omega
  · intro v' w4 hown4 hgrow _ hwhere
    have kA : Kt (fun _ => True) w1 (w1.alloc (.cells #[.pointer (some ⟨q, 0, none⟩)] 61)) := (Kt.refl _ _).alloc _
    have rA := HR.out.kt kA trivial trivial
    have eA := HE.out.kt kA trivial
    have ho : w4.ownsRow B 61 1 v' ((S.L ++ [i]).map fun i => S.G.getD i 0).length (((S.L ++ [i]).map fun i => S.G.getD i 0).map ptr) := by
      have e1 : ((S.L ++ [i]).map fun i => S.G.getD i 0).length = n + 1 := by rw [← Hn.out]; simp
      rw [e1, List.map_append, List.map_append, List.map_cons, List.map_nil, List.map_cons, List.map_nil, HG.out]
      rw [Hxs.out] at hown4
      exact hown4
    obtain ⟨rB, bx⟩ := rA.line (L' := (S.L ++ [i]).map fun i => S.G.getD i 0) hgrow ho (fun k hk => by
      rcases hwhere with h1 | h1
      · exact .inl (h1 ▸ hk)
      · rw [h1] at hk; cases hk; exact .inr (by simp))
    have kB : Kt (fun t => t ≠ 61) (w1.alloc (.cells #[.pointer (some ⟨q, 0, none⟩)] 61)) w4 := (Kt.refl _ _).grown hgrow 61 (fun k hk => ownsRow_box rA.rl k hk) (by simp)
    have kC : Kt (fun t => t ≠ 63) w4 (w4.setCell ⟨s, 3, none⟩ v') := (Kt.refl _ _).setCell bx (by simp) 3 v'
    have eB := (eA.kt kB (by decide)).kt kC (by decide)
    have fin : To w B s (S.ready i e) (w4.setCell ⟨s, 3, none⟩ v') := by
      refine ⟨⟨vt, va, v', ⟨?_, eB, ?_, HW.out.hn⟩⟩, ?_, ?_⟩
      · have : alv (S.ready i e).E (S.ready i e).G = alv S.E S.G := alv_set S.E S.G i e { e with st := 1 } he h3 (by simp)
        rw [this]
        exact rB
      · intro k hk
        rcases List.mem_append.1 hk with h1 | h1
        · exact HW.out.ll k h1
        · simp at h1; subst h1; exact hi
      · refine Below.setCell ?_ (p := ⟨s, 3, none⟩) HW.out.rows.hs _
        refine (HBl.out.alloc (by rw [← HZ.out]; exact hB) _).grown hgrow (by have := HZ.out; simp; omega) (fun k hk => (rA.rl.lt k hk).1)
      · refine Kt.trans (HK.out.mono (fun t ht => ht.2.2)) ?_
        refine Kt.trans (kA.mono (fun _ _ => trivial)) ?_
        exact Kt.trans (kB.mono (fun t ht => ht.1)) (kC.mono (fun t ht => ht.2.1))
    have d3 : w4.cell? ⟨s, 3, none⟩ = some (.slice av n cv) := bx.cell 3
    have f3 := bx.frozen 3
    obtain ⟨av', cv', hv'⟩ := ownsRow_slice hown4
    have HF : Hid (To w B s (S.ready i e) (w4.setCell ⟨s, 3, none⟩ v')) := fin
    clear fin kA kB kC eA eB rA rB bx hgrow hwhere hown4 ho own1 hx
    subst hv'
    go_wp2
    go_end0
    exact ⟨rfl, HF.out⟩

theorem nilE (t : TypeId) (x : Value) (w : World) : (binOp .eql 68 (.iface t x) .nilIface).run Try.prog w = .ok (.bool false) w := by
  have h : ∀ d : Nat, (Op.equalIn (d + 1) 68 (.iface t x) .nilIface).run Try.prog w = .ok false w := fun d => by
    simp [Op.equalIn]
  simp only [binOp]
  simp [Op.equal, Op.maxDepth, h]
theorem nilN (w : World) : (binOp .eql 68 .nilIface .nilIface).run Try.prog w = .ok (.bool true) w := by
  have h : ∀ d : Nat, (Op.equalIn (d + 1) 68 .nilIface .nilIface).run Try.prog w = .ok true w := fun d => by
    simp [Op.equalIn]
  simp only [binOp]
  simp [Op.equal, Op.maxDepth, h]
theorem add_nil {w : World} {B s : Nat} {S : SS} (h : IsS w B s S) : Calls Try.prog 9 #[ptr s, .nilIface] w fun r w' => r = .returned (.tuple #[.int .i64 0, .int .i64 1]) ∧ w' = w := by
  obtain ⟨vt, va, vl, h⟩ := h
  have c := isMade_at h.rows.box
  have hn := nilN
  clear h
  unfold ptr at *
  go_enter Try.func9, Try.ntmps9
  go_wp2_with (go_at_call 23; refine c.mono ?_; rintro e w' ⟨rfl, rfl⟩)
  go_ret2
  simp
theorem add_full {w : World} {B s : Nat} {S : SS} (h : IsS w B s S) (hf : 64 ≤ (alv S.E S.G).length) (t : TypeId) (x : Value) : Calls Try.prog 9 #[ptr s, .iface t x] w fun r w' => r = .returned (.tuple #[.int .i64 0, .int .i64 5]) ∧ w' = w := by
  obtain ⟨vt, va, vl, h⟩ := h
  have c := isMade_at h.rows.box
  have hn := nilE t x
  obtain ⟨a, cap, rfl⟩ := ownsRow_slice h.rows.ra
  have c2 : w.cell? ⟨s, 2, none⟩ = some (.slice a (alv S.E S.G).length cap) := h.rows.box.cell 2
  generalize (alv S.E S.G).length = n at *
  have hf' : (64 : Int) ≤ (n : Int) := by omega
  clear h
  unfold ptr at *
  go_enter Try.func9, Try.ntmps9
  go_wp2_with (go_at_call 23; refine c.mono ?_; rintro e w' ⟨rfl, rfl⟩)
  go_ret2
  simp
def SS.add (S : SS) (g : Nat) (v : Value) : SS := { S with G := S.G ++ [g], E := S.E ++ [⟨v, 1, 0⟩], L := S.L ++ [S.G.length] }
theorem map_getD (L G : List Nat) (g : Nat) (h : ∀ i ∈ L, i < G.length) : L.map (fun i => (G ++ [g]).getD i 0) = L.map fun i => G.getD i 0 := by
  apply List.map_congr_left
  intro i hi
  have := h i hi
  simp [List.getElem?_append_left this]
set_option maxHeartbeats 2000000 in
set_option maxRecDepth 10000 in
theorem add_at {w : World} {B s : Nat} {S : SS} (h : IsS w B s S) (hf : (alv S.E S.G).length < 64) (hg : S.G.length < 1000) (hl : S.L.length < 1000) (t : TypeId) (x : Value) :
    Calls Try.prog 9 #[ptr s, .iface t x] w fun r w' => ∃ g, r = .returned (.tuple #[.int .i64 ((S.G.length + 1 : Nat) : Int), .int .i64 0]) ∧ To w B s (S.add g (.iface t x)) w' := by
  have hB := h.hB
  obtain ⟨vt, va, vl, h⟩ := h
  obtain ⟨i0, hi0, hz0, hz1, hz2⟩ := info_parts infoP
  have c := isMade_at h.rows.box
  have hn := nilE t x
  obtain ⟨at1, ct1, hvt⟩ := ownsRow_slice h.rows.rt
  obtain ⟨aa1, ca1, hva⟩ := ownsRow_slice h.rows.ra
  subst hvt hva
  have c1 : w.cell? ⟨s, 1, none⟩ = some (.slice at1 S.G.length ct1) := h.rows.box.cell 1
  have c2 : w.cell? ⟨s, 2, none⟩ = some (.slice aa1 (alv S.E S.G).length ca1) := h.rows.box.cell 2
  have HW : Hid (Sh w B s S (.slice at1 S.G.length ct1) (.slice aa1 (alv S.E S.G).length ca1) vl) := h
  -- the new entry
  obtain ⟨g, hgs⟩ : ∃ g, g = w.heap.size := ⟨_, rfl⟩
  obtain ⟨w1, hw1⟩ : ∃ w1, w1 = w.alloc (.cells (enC S.G.length ⟨.iface t x, 0, 0⟩) 70) := ⟨_, rfl⟩
  have k1 : Kt (fun _ => True) w w1 := by rw [hw1]; exact (Kt.refl _ _).alloc _
  have e1 : Ents w1 B (S.G ++ [g]) (S.E ++ [⟨.iface t x, 0, 0⟩]) := by rw [hw1, hgs]; exact h.ents.add hB _
  have r1 := h.rows.kt k1 trivial trivial
  have b1 : Below B w w1 := by rw [hw1]; exact (Below.refl _ _).alloc hB _
  have z1 : w1.heap.size = g + 1 := by rw [hw1, hgs]; simp
  -- the row of tasks
  have hx1 := Box.new w1 #[ptr g] 61
  have kA : Kt (fun _ => True) w1 (w1.alloc (.cells #[ptr g] 61)) := (Kt.refl _ _).alloc _
  have rA := r1.kt kA trivial trivial
  have eA := e1.kt kA trivial
  have bA : Below B w (w1.alloc (.cells #[ptr g] 61)) := b1.alloc (by have := b1.size; omega) _
  have own1 := rA.rt
  have HrA : Hid (Rws (w1.alloc (.cells #[ptr g] 61)) B s (.slice at1 S.G.length ct1) (.slice aa1 (alv S.E S.G).length ca1) vl S.nv S.wk S.G (alv S.E S.G) (S.L.map fun i => S.G.getD i 0)) := rA
  have HeA : Hid (Ents (w1.alloc (.cells #[ptr g] 61)) B (S.G ++ [g]) (S.E ++ [⟨.iface t x, 0, 0⟩])) := eA
  have HbA : Hid (Below B w (w1.alloc (.cells #[ptr g] 61))) := bA
  have HkA : Hid (Kt (fun _ => True) w (w1.alloc (.cells #[ptr g] 61))) := k1.trans kA
  have HB : Hid (B ≤ w.heap.size) := hB
  have hBA : B ≤ w1.heap.size := Nat.le_trans hB b1.size
  have d1 : w1.cell? ⟨s, 1, none⟩ = some (.slice at1 S.G.length ct1) := r1.box.cell 1
  obtain ⟨xs, hxs⟩ : ∃ xs, xs = S.G.map ptr := ⟨_, rfl⟩
  rw [← hxs] at own1
  have Hxs : Hid (xs = S.G.map ptr) := hxs
  generalize hN : S.G.length = N at *
  have HN : Hid (S.G.length = N) := hN
  generalize hM : (alv S.E S.G).length = M at *
  have HM : Hid ((alv S.E S.G).length = M) := hM
  have hM' : (M : Int) < 64 := by omega
  have hwE : w.alloc (.cells #[.int .i64 ((N : Int) + 1), .iface t x, .int .u8 0, .int .i64 0] 70) = w1 := by rw [hw1]; unfold enC; push_cast; rfl
  have HGS : Hid (g = w.heap.size) := hgs
  have hgs' : w.heap.size = g := hgs.symm
  have HZ1 : Hid (w1.heap.size = g + 1) := z1
  clear h r1 rA eA e1 b1 bA k1 kA hxs hN hM hw1 hgs hB z1
  unfold ptr at *
  go_enter Try.func9, Try.ntmps9
  go_wp2_with fail
  refine Calls.mono c ?_
  rintro e wx ⟨rfl, hwx⟩
  subst wx
  clear c
  go_wp2_with (at_builtin; refine wpList_append_own_at _ rfl _ _ 60 rfl B 61 i0 (.pointer none) 1 8 Try.underlying60 hi0 hz0 hz1 hz2 rfl (by decide) _ N _ rfl own1 ⟨w1.heap.size, 0, none⟩ 1 1 [.pointer (some ⟨g, 0, none⟩)] rfl rfl (one_cell hx1) ?c2 ?c3 ?c4 ?c5 ?_)
  case c2 => intro u hu; simp at hu; subst hu; rfl
  case c3 => unfold maxLen; omega
  case c4 => omega
  case c5 => simp; omega
  intro v2 w2 hown2 hgrow2 _ hwhere2
  clear own1 hx1 hwE d1 c1 c2
  have ho2 : w2.ownsRow B 61 1 v2 (S.G ++ [g]).length ((S.G ++ [g]).map ptr) := by
    rw [Hxs.out] at hown2
    rw [List.length_append, HN.out, List.map_append]
    exact hown2
  obtain ⟨rB, bxB⟩ := HrA.out.tasks (T' := S.G ++ [g]) hgrow2 ho2 (fun k hk => by
      rcases hwhere2 with h1 | h1
      · exact .inl (h1 ▸ hk)
      · rw [h1] at hk; cases hk; exact .inr (by simp))
  obtain ⟨a2, n2, hv2⟩ := ownsRow_slice hown2
  have kB : Kt (fun t => t ≠ 61 ∧ t ≠ 63) (w1.alloc (.cells #[ptr g] 61)) (w2.setCell ⟨s, 1, none⟩ v2) := ((Kt.refl _ _).grown hgrow2 61 (fun k hk => ownsRow_box HrA.out.rt k hk) (by simp)).setCell bxB (by simp) 1 v2
  have eB := HeA.out.kt kB (by decide)
  have bB : Below B w (w2.setCell ⟨s, 1, none⟩ v2) := (HbA.out.grown hgrow2 (by simp; omega) (fun k hk => (HrA.out.rt.lt k hk).1)).setCell (p := ⟨s, 1, none⟩) HW.out.rows.hs _
  obtain ⟨w3, hw3⟩ : ∃ w3, w3 = w2.setCell ⟨s, 1, none⟩ v2 := ⟨_, rfl⟩
  have d1 : w2.cell? ⟨s, 1, none⟩ = some (.slice at1 N ct1) := bxB.cell 1
  have f1 := bxB.frozen 1
  rw [← hw3] at rB kB eB bB
  -- the row of those that are not over
  have hx3 := Box.new w3 #[ptr g] 61
  have kC : Kt (fun _ => True) w3 (w3.alloc (.cells #[ptr g] 61)) := (Kt.refl _ _).alloc _
  have rC := rB.kt kC trivial trivial
  have eC := eB.kt kC trivial
  have hB3 : B ≤ w3.heap.size := Nat.le_trans HB.out bB.size
  have bC : Below B w (w3.alloc (.cells #[ptr g] 61)) := bB.alloc hB3 _
  have own3 := rC.ra
  obtain ⟨ys, hys⟩ : ∃ ys, ys = (alv S.E S.G).map ptr := ⟨_, rfl⟩
  rw [← hys, HM.out] at own3
  have Hys : Hid (ys = (alv S.E S.G).map ptr) := hys
  have d2 : w3.cell? ⟨s, 2, none⟩ = some (.slice aa1 M ca1) := rB.box.cell 2
  have HrC : Hid (Rws (w3.alloc (.cells #[ptr g] 61)) B s v2 (.slice aa1 M ca1) vl S.nv S.wk (S.G ++ [g]) (alv S.E S.G) (S.L.map fun i => S.G.getD i 0)) := rC
  have HeC : Hid (Ents (w3.alloc (.cells #[ptr g] 61)) B (S.G ++ [g]) (S.E ++ [⟨.iface t x, 0, 0⟩])) := eC
  have HbC : Hid (Below B w (w3.alloc (.cells #[ptr g] 61))) := bC
  have HkC : Hid (Kt (fun t => t ≠ 61 ∧ t ≠ 63) w (w3.alloc (.cells #[ptr g] 61))) := ((HkA.out.mono (fun _ _ => trivial)).trans kB).trans (kC.mono (fun _ _ => trivial))
  have hw3' : w2.setCell ⟨s, 1, none⟩ v2 = w3 := hw3.symm
  clear rB kB eB bB rC eC bC kC hys hw3 HrA HeA HbA HkA bxB hgrow2 hwhere2 hown2 ho2 hBA
  subst hv2
  unfold ptr at *
  go_wp2_with (at_builtin; refine wpList_append_own_at _ rfl _ _ 60 rfl B 61 i0 (.pointer none) 1 8 Try.underlying60 hi0 hz0 hz1 hz2 rfl (by decide) _ M _ rfl own3 ⟨w3.heap.size, 0, none⟩ 1 1 [.pointer (some ⟨g, 0, none⟩)] rfl rfl (one_cell hx3) ?c2 ?c3 ?c4 ?c5 ?_)
  case c2 => intro u hu; simp at hu; subst hu; rfl
  case c3 => unfold maxLen; omega
  case c4 => omega
  case c5 => simp; omega
  intro v4 w4 hown4 hgrow4 _ hwhere4
  have ho4 : w4.ownsRow B 61 1 v4 (alv S.E S.G ++ [g]).length ((alv S.E S.G ++ [g]).map ptr) := by
    rw [Hys.out] at hown4
    rw [List.length_append, HM.out, List.map_append]
    exact hown4
  obtain ⟨rD, bxD⟩ := HrC.out.alive (A' := alv S.E S.G ++ [g]) hgrow4 ho4 (fun k hk => by
      rcases hwhere4 with h1 | h1
      · exact .inl (h1 ▸ hk)
      · rw [h1] at hk; cases hk; exact .inr (by simp))
  obtain ⟨a4, n4, hv4⟩ := ownsRow_slice hown4
  have kD : Kt (fun t => t ≠ 61 ∧ t ≠ 63) (w3.alloc (.cells #[ptr g] 61)) (w4.setCell ⟨s, 2, none⟩ v4) := ((Kt.refl _ _).grown hgrow4 61 (fun k hk => ownsRow_box HrC.out.ra k hk) (by simp)).setCell bxD (by simp) 2 v4
  have eD := HeC.out.kt kD (by decide)
  have bD : Below B w (w4.setCell ⟨s, 2, none⟩ v4) := (HbC.out.grown hgrow4 (by simp; omega) (fun k hk => (HrC.out.ra.lt k hk).1)).setCell (p := ⟨s, 2, none⟩) HW.out.rows.hs _
  obtain ⟨w5, hw5⟩ : ∃ w5, w5 = w4.setCell ⟨s, 2, none⟩ v4 := ⟨_, rfl⟩
  have d2' : w4.cell? ⟨s, 2, none⟩ = some (.slice aa1 M ca1) := bxD.cell 2
  have f2 := bxD.frozen 2
  rw [← hw5] at rD kD eD bD
  obtain ⟨S1, hS1⟩ : ∃ S1 : SS, S1 = ⟨S.G ++ [g], S.E ++ [⟨.iface t x, 0, 0⟩], S.L, S.now, S.wk⟩ := ⟨_, rfl⟩
  have i1 : IsS w5 B s S1 := by
    refine ⟨.slice a2 (N + 1) n2, v4, vl, ⟨?_, by rw [hS1]; exact eD, ?_, ?_⟩⟩
    · have en : S1.nv = S.nv := by
        rw [hS1]
        unfold SS.nv
        cases hnow : S.now with
        | none => rfl
        | some k => have := HW.out.hn k hnow; simp [List.getElem?_append_left this]
      have ea : alv S1.E S1.G = alv S.E S.G ++ [g] := by rw [hS1]; exact alv_snoc _ _ _ _ HW.out.ents.len (by simp)
      have el : S1.L.map (fun i => S1.G.getD i 0) = S.L.map fun i => S.G.getD i 0 := by rw [hS1]; exact map_getD _ _ _ HW.out.ll
      rw [en, ea, el, hS1]
      exact rD
    · rw [hS1]; intro k hk; have := HW.out.ll k hk; simp; omega
    · rw [hS1]; intro k hk; have := HW.out.hn k hk; simp; omega
  have hlE := HW.out.ents.len
  have hiN : N < S1.G.length := by rw [hS1]; have := HN.out; simp; omega
  have heN : S1.E[N]? = some ⟨.iface t x, 0, 0⟩ := by
    rw [hS1]
    show (S.E ++ [_])[N]? = _
    rw [List.getElem?_append_right (by rw [hlE, HN.out]; exact Nat.le_refl _), hlE, HN.out]
    simp
  have hgN : S1.G[N] = g := by
    have h0 := HN.out
    simp [hS1, ← h0]
  have cQ := queue_at i1 N ⟨.iface t x, 0, 0⟩ heN (by simp) (by rw [hS1]; show S.L.length < _; omega) hiN
  rw [hgN] at cQ
  have eS : S1.ready N ⟨.iface t x, 0, 0⟩ = S.add g (.iface t x) := by
    rw [hS1]
    unfold SS.ready SS.add
    have e2 : (S.E ++ [(⟨.iface t x, 0, 0⟩ : En)]).set N ({ (⟨.iface t x, 0, 0⟩ : En) with st := 1 }) = S.E ++ [(⟨.iface t x, 1, 0⟩ : En)] := by
      rw [List.set_append_right N _ (by rw [hlE, HN.out]; exact Nat.le_refl _), hlE, HN.out]
      simp
    rw [HN.out]
    exact congrArg (fun z => SS.mk _ z _ _ _) e2
  rw [eS] at cQ
  have HcQ : Hid (Calls Try.prog 24 #[ptr s, ptr g] w5 fun r w' => r = .returned (.tuple #[]) ∧ To w5 B s (S.add g (.iface t x)) w') := cQ
  have HbD : Hid (Below B w w5) := bD
  have HkD : Hid (Kt Oth w w5) := (HkC.out.mono (fun t ht => ⟨ht.1, ht.2.1⟩)).trans (kD.mono (fun t ht => ⟨ht.1, ht.2.1⟩))
  have hw5' : w4.setCell ⟨s, 2, none⟩ v4 = w5 := hw5.symm
  clear rD kD eD bD i1 cQ eS hS1 hgN heN hiN hlE hw5 HrC HeC HbC HkC bxD hgrow4 hwhere4 hown4 ho4 own3 hx3 d2 hw3' d1 f1
  subst hv4
  unfold ptr at *
  go_wp2_with fail
  refine Calls.mono HcQ.out ?_
  rintro r w6 ⟨rfl, T6⟩
  obtain ⟨vt6, va6, vl6, h6⟩ := T6.is
  have c6 : w6.cell? ⟨g, 0, none⟩ = some (.int .i64 ((N : Int) + 1)) := by
    have hiA : N < (S.add g (.iface t x)).G.length := by have := HN.out; simp [SS.add]; omega
    have heA : (S.add g (.iface t x)).E[N]? = some ⟨.iface t x, 1, 0⟩ := by
      show (S.E ++ [_])[N]? = _
      rw [List.getElem?_append_right (by rw [HW.out.ents.len, HN.out]; exact Nat.le_refl _), HW.out.ents.len, HN.out]
      simp
    have := (h6.cells N hiA _ heA).1
    have hq : (S.add g (.iface t x)).G[N] = g := by
      have h0 := HN.out
      simp [SS.add, ← h0]
    rw [hq] at this
    rw [this]
    push_cast
    rfl
  have HT : Hid (To w B s (S.add g (.iface t x)) w6) := ⟨T6.is, HbD.out.trans T6.bel, HkD.out.trans T6.kt⟩
  clear HcQ T6 h6
  go_wp2
  go_ret2
  exact ⟨g, rfl, HT.out⟩
end Go.Proofs.Ytjhhncbadkpbaaa
