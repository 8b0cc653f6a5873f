/-
  SKept: put together.
-/
import Derived.Test.YtkhejjddmbegaaaG10
import Derived.Deep.CutBlock
/-
  Of groups that were appended, whatever a crash left of them, a beginning is told: the law's walk.
-/
namespace Go.Proofs.Ytkhejjddmbegaaa.S
open Go.RowKit
open Go.Proofs.Ytkhejjddmbegaaa.Dk (Box RdI RdBl)
open Go.Proofs.Ytkhejjddmbegaaa.J (pk pk_in pick_eq)

theorem write_calm' {D : Dk.DS} (hc : J.Calm D) (n : Nat) (hn : n < D.nb) (b : List UInt8) (hb : b.length = 4096) : D.write (n : Int) b = { D with uf := D.uf ++ [(n, b)], n := D.n + 1 } ∧ D.writeE (n : Int) b = 0 := by
  have hh : D.has (n : Int) = true := by simp [Dk.DS.has]; omega
  unfold Dk.DS.write Dk.DS.writeE
  rw [hh, hc.operE, hc.oper]
  simp [hb]

theorem Sw.allI2 {w u u' : World} {g dg e t : Nat} {s : W9} {qs : List G9} {a : Option Addr} {n c : Nat} (h : Sw w g dg e t s (.slice a n c) qs u) (hk : ∀ i, w.heap.size ≤ i → i < u.heap.size → u'.heap[i]? = u.heap[i]?) : AllI u' a (iss9 s.gs) := fun h0 => by
  obtain ⟨F, _, im, _, _⟩ := h.ex
  have hi := h.iss
  have hl : 0 < qs.length := by rw [hi] at h0; simpa using h0
  have hrow : u'.ownsRow w.heap.size 50 1 (.slice a n c) qs.length (alC qs) := J.owns_kept h.row (fun k hk' => hk k (h.row.lt k hk').1 (h.row.lt k hk').2)
  obtain ⟨b, rfl, _, _, hc⟩ := Rc.owns_cells hrow hl
  refine ⟨b, 0, rfl, fun j hj => ?_⟩
  have hjq : j < qs.length := by rw [hi] at hj; simpa using hj
  have e : (iss9 s.gs)[j] = im9 (qs[j]).z (qs[j]).n := by simp only [hi, List.getElem_map]
  rw [e, im9_length]
  refine ⟨(qs[j]).al, (qs[j]).cl, ?_, ((im _ (List.getElem_mem hjq)).keep (fun k hk' hn => hk k (by omega) hk')).imgs⟩
  rw [Nat.zero_add, hc _ (by omega)]
  simp [alC, hjq]
theorem Sw.cap {w u : World} {g dg e t : Nat} {s : W9} {qs : List G9} {a : Option Addr} {n c : Nat} (h : Sw w g dg e t s (.slice a n c) qs u) : n = qs.length ∧ n ≤ c ∧ c ≤ maxLen := by
  rcases h.row.2 with ⟨h1, h2⟩ | ⟨g', cap, cur, h1, _, _, h2, h3, _⟩
  · injection h1 with h4 h5 h6
    subst h5 h6
    exact ⟨h2.symm, Nat.le_refl _, by unfold maxLen; omega⟩
  · injection h1 with h4 h5 h6
    subst h5 h6
    exact ⟨rfl, h2, h3⟩

/-- the old disk, and what it may not touch -/
structure KS (w u2 u4 : World) (d1 : Nat) (D : Dk.DS) (u : World) : Prop where
  dsk : ∃ F, Dk.IsDisk u d1 D F ∧ ∀ i, F i → (w.heap.size ≤ i ∧ i < u2.heap.size) ∨ u4.heap.size ≤ i
  keep : ∀ i, u2.heap.size ≤ i → i < u4.heap.size → u.heap[i]? = u4.heap[i]?
  bel : Below w.heap.size w u
  sz : w.heap.size ≤ u4.heap.size
  size : u4.heap.size ≤ u.heap.size
section
variable {w u2 u4 u u' : World} {d1 : Nat} {D D' : Dk.DS}
theorem KS.below (h : KS w u2 u4 d1 D u) (b : Below u.heap.size u u') : KS w u2 u4 d1 D u' := by
  obtain ⟨⟨F, ⟨gd, cd, vu, ps, hl⟩, hF⟩, h2, h3, h4, h5⟩ := h
  exact ⟨⟨F, ⟨gd, cd, vu, ps, hl.kept (fun i hi => b.block i (hl.flt i hi)) b.size⟩, hF⟩, fun i h6 h7 => (b.block i (by omega)).trans (h2 i h6 h7), h3.trans (b.mono h3.size), h4, Nat.le_trans h5 b.size⟩
theorem KS.upd (h : KS w u2 u4 d1 D u) {F F' : Nat → Prop} (hF : ∀ i, F i → (w.heap.size ≤ i ∧ i < u2.heap.size) ∨ u4.heap.size ≤ i) (hd : Dk.IsDisk u' d1 D' F') (hF' : ∀ i, F' i → F i ∨ u.heap.size ≤ i) (hu : Dk.Upd F u u') : KS w u2 u4 d1 D' u' := by
  obtain ⟨_, h2, h3, h4, h5⟩ := h
  refine ⟨⟨F', hd, fun i hi => ?_⟩, fun i h6 h7 => (hu.block i (by omega) (fun hf => ?_)).trans (h2 i h6 h7), ?_, h4, Nat.le_trans h5 hu.size⟩
  · rcases hF' i hi with h | h
    · exact hF i h
    · exact .inr (by omega)
  · have := hF i hf
    omega
  · exact h3.trans (hu.below (fun i hi => by have := hF i hi; omega) h3.size)
theorem KS.write (h : KS w u2 u4 d1 D u) (b : Below u.heap.size u u') (hc : J.Calm D) (hn : D.nb = 64) (hlim : D.uf.length ≤ 1000 ∧ D.n ≤ 1000) (p g cap : Nat) (hp : p < 64) (xs : List UInt8) (hb : xs.length = 4096) (hr : Dk.Rd u' (some ⟨g, 0, none⟩) xs) (hg : u.heap.size ≤ g) :
    Calls Try.prog 10 #[.pointer (some ⟨d1, 0, none⟩), .int .i64 (p : Int), .slice (some ⟨g, 0, none⟩) 4096 cap] u' fun e w' => e = .returned (.int .i64 0) ∧ KS w u2 u4 d1 { D with uf := D.uf ++ [(p, xs)], n := D.n + 1 } w' := by
  have h' := h.below b
  obtain ⟨⟨F, ⟨gd, cd, vu, ps, hl⟩, hF⟩, h2, h3, h4, h5⟩ := h
  have hd : Dk.IsDisk u' d1 D F := ⟨gd, cd, vu, ps, hl.kept (fun i hi => b.block i (hl.flt i hi)) b.size⟩
  obtain ⟨e1, e2⟩ := write_calm' hc p (by omega) xs hb
  refine (Dk.write_at hd (p : Int) (some ⟨g, 0, none⟩) 4096 cap xs hb ⟨by omega, by omega⟩ hr (fun ad e => ?_)).mono ?_
  · cases e
    exact fun hf => by have h7 := hl.flt g hf; omega
  rintro r w' ⟨rfl, ⟨F', hd', hF'⟩, hu⟩
  rw [e1] at hd'
  rw [e2]
  exact ⟨rfl, h'.upd hF hd' hF' hu⟩
theorem KS.flush (h : KS w u2 u4 d1 D u) (hc : J.Calm D) : Calls Try.prog 7 #[.pointer (some ⟨d1, 0, none⟩)] u fun e w' => e = .returned (.int .i64 0) ∧ KS w u2 u4 d1 D.flush w' := by
  obtain ⟨F, hd, hF⟩ := h.dsk
  refine (Dk.flush_at hd).mono ?_
  rintro r w' ⟨rfl, hd', hu⟩
  rw [hc.operE]
  exact ⟨rfl, h.upd hF hd' (fun _ hi => .inl hi) hu⟩
theorem KS.crash (h : KS w u2 u4 d1 D u) (ak : Option Addr) (nk ck : Nat) (ks : List Bool) (torn : Int) (m : Nat) (hm : m < 256) (hks : ks.length = nk) (hnk : nk ≤ 9223372036854775807) (hrk : RdBl w ak ks) :
    Calls Try.prog 11 #[.pointer (some ⟨d1, 0, none⟩), .slice ak nk ck, .int .i64 torn, .int .u8 (m : Int)] u fun e w' => e = .returned (.int .i64 0) ∧ KS w u2 u4 d1 (D.crash ks torn m) w' := by
  obtain ⟨F, hd, hF⟩ := h.dsk
  have hb := h.bel
  have hsz := h.sz
  have hr : RdBl u ak ks := fun hp => by
    obtain ⟨b, o, ha, hc⟩ := hrk hp
    exact ⟨b, o, ha, fun j hj => (hb.cell (p := ⟨b, o + j, none⟩) (block_lt_of_cell (hc j hj))).trans (hc j hj)⟩
  refine (Dk.crash_at hd ak nk ck ks torn m hm hks hnk hr (fun ad e h0 hf => ?_)).mono ?_
  · obtain ⟨b, o, ha, hc⟩ := hrk (by omega)
    rw [e] at ha
    cases ha
    have h1 := block_lt_of_cell (hc 0 (by omega))
    have h2 := hF b hf
    dsimp only at h1
    omega
  rintro r w' ⟨rfl, hd', hu⟩
  exact ⟨rfl, h.upd hF hd' (fun _ hi => .inl hi) hu⟩
theorem KS.fresh (h : KS w u2 u4 d1 D u) {d2 : Nat} {D2 : Dk.DS} {F2 : Nat → Prop} (hd : Dk.IsDisk u4 d2 D2 F2) (hF : ∀ i, F2 i → u2.heap.size ≤ i) : Dk.IsDisk u d2 D2 F2 := by
  obtain ⟨gd, cd, vu, ps, hl⟩ := hd
  exact ⟨gd, cd, vu, ps, hl.kept (fun i hi => h.keep i (hF i hi) (hl.flt i hi)) h.size⟩
end

/-- the old ring has no stamp of epoch 2 -/
theorem old_noE (t : Nat) (ht : t < 16) (zs : List Int) (k : Nat) (hk : k ≤ zs.length) (hk12 : k ≤ 12) (ok : (st9 1 t zs k).D.Ok) : NoE (st9 1 t zs k).D.flush t 2 := fun i hi x => by
  obtain ⟨h1, h2, h3⟩ := st9_uf 1 t ht zs k hk
  have hok := st9_ok 1 t (by decide) zs k hk hk12
  have h9 := ok9 1 t zs k hk
  generalize st9 1 t zs k = s at h1 h2 h3 hok h9 ok ⊢
  have hL : (blks 1 1 (iss9 s.gs)).length ≤ 16 := by rw [← h2]; exact h9.2.2.2.2.1
  have hg := h9.2.2.2.2.2.1
  rw [h2] at h3
  have e : Dk.blk s.D.flush.dur (2 + (t + i) % 16) = rg s.D t i := by
    rw [h9.1.flush.1]
    exact Dk.stand_blk s.D ok _ (by have := h9.2.1; omega)
  rw [e]
  by_cases h : i < (blks 1 1 (iss9 s.gs)).length
  · rw [rg_in h3 hL i h]
    obtain ⟨_, j, hj, hm⟩ := okAll_marks hok i h
    intro q hq he
    rw [hm x] at he
    have el : (iss9 s.gs).length = s.gs.length := by simp [iss9]
    have := (Rc.mark_inj (by decide) (by omega) (by decide) (by omega) he).1
    omega
  · rw [rg_out h3 i (by omega) hi, h1, blk_nought _ _ (by omega)]
    exact noMark_zero (by decide) (by decide) x

/-- the disk behind a flush, if there is one, and a crash -/
def endD (fl : Bool) (Dg : Dk.DS) (keep : List Bool) (torn : Int) (m : Nat) : Dk.DS := (if fl = true then Dg.flush else Dg).crash keep torn m
/-- what is told behind it all -/
theorem kept_tells {Df : Dk.DS} {t k : Nat} {zs : List Int} (ht : t < 16) (hk : k ≤ zs.length) (hk12 : k ≤ 12) (hn : NoE Df t 2) (hu : Df.uf = []) (hc : J.Calm Df) (hnb : Df.nb = 64) {Dg : Dk.DS}
    (hDg : Dg = J.grow Df 16 t (blks 2 1 (iss9 (st9 2 t zs k).gs)) (st9 2 t zs k).U) (ok : Dg.Ok) (fl : Bool) (keep : List Bool) (torn : Int) (m : Nat) {xs : List Gx} (hr : Run (endD fl Dg keep torn m) t 2 0 1 xs) :
    xs.map (fun x => gimgs (endD fl Dg keep torn m) t x.b) = (iss9 (st9 2 t zs k).gs).take xs.length ∧ xs.length ≤ (st9 2 t zs k).gs.length ∧ (fl = true → xs.length = (st9 2 t zs k).gs.length) := by
  obtain ⟨h1, h2, h3⟩ := st9_uf 2 t ht zs k hk
  have hok := st9_ok 2 t (by decide) zs k hk hk12
  have h9 := ok9 2 t zs k hk
  generalize st9 2 t zs k = s at h1 h2 h3 hok h9 hDg ⊢
  have hL : (blks 2 1 (iss9 s.gs)).length ≤ 16 := by rw [← h2]; exact h9.2.2.2.2.1
  have el : (iss9 s.gs).length = s.gs.length := by simp [iss9]
  have hgu : Dg.uf = J.wrs 16 t (blks 2 1 (iss9 s.gs)) (blks 2 1 (iss9 s.gs)).length := by rw [hDg, J.grow, hu, h2]; rfl
  have hgd : Dg.dur = Df.dur := by rw [hDg]; rfl
  have hgn : Dg.nb = 64 := by rw [hDg]; exact hnb
  have hgc : J.Calm Dg := by rw [hDg]; exact hc
  have hnE : NoE Dg t 2 := fun i hi x => by rw [hgd]; exact hn i hi x
  cases fl with
  | false =>
    have hm := mixd_crash ok hgn hgu hL hnE keep torn m
    obtain ⟨q1, q2⟩ := run_mixd hok hm hr
    exact ⟨q2, by omega, fun h => by cases h⟩
  | true =>
    have hfu : Dg.flush.uf = [] := by rw [hgc.flush.1]
    have he : ∀ i, i < 16 → rg (Dg.flush.crash keep torn m) t i = rg Dg t i := fun i hi => by
      rw [rg_calm hfu]
      exact J.stand_flush hgc ok _ (by omega)
    have hm := (mixd_stand hgu hL hnE).congr he
    obtain ⟨q1, q2⟩ := run_mixd hok hm hr
    have q3 := run_whole hok (b := 0) (fun i h => by rw [Nat.zero_add]; exact (he i (by omega)).trans (rg_in hgu hL i h)) (by omega) hr
    exact ⟨q2, by omega, fun _ => by omega⟩

/-- the disk of a journal's world is a right one -/
theorem isDisk_ok {w : World} {g : Nat} {D : Dk.DS} {F : Nat → Prop} (h : Dk.IsDisk w g D F) : D.Ok := by
  obtain ⟨_, _, _, _, hl⟩ := h
  exact hl.ok
set_option maxRecDepth 100000 in
set_option maxHeartbeats 4000000 in
theorem kept_walk (w : World) (z0 : Int) (a1 : Option Addr) (n1 c1 : Nat) (x1 : List Int) (a2 : Option Addr) (n2 c2 : Nat) (x2 : List Int) (a3 : Option Addr) (n3 c3 : Nat) (x3 : List Bool) (z4 : Int) (m5 : Nat) (b6 : Bool)
    (hl1 : x1.length = n1) (hr1 : RdI w a1 x1) (hl2 : x2.length = n2) (hr2 : RdI w a2 x2) (hl3 : x3.length = n3) (hr3 : RdBl w a3 x3) (hn3 : n3 ≤ 9223372036854775807) (hm5 : m5 < 256) :
    Calls Try.prog 3 #[.int .i64 z0, .slice a1 n1 c1, .slice a2 n2 c2, .slice a3 n3 c3, .int .i64 z4, .int .u8 (m5 : Int), .bool b6] w fun r w' => r = .returned (.bool true) ∧ Below w.heap.size w w' := by
  have i1 := pk_in z0 16 (by decide)
  obtain ⟨T, hT⟩ : ∃ T : Nat, (T : Int) = pk z0 16 := ⟨(pk z0 16).toNat, by omega⟩
  have p1 := pick_eq z0 16 16 w rfl (by decide) (by decide)
  rw [← hT] at p1 i1
  have iT : T < 16 := by omega
  clear hT i1
  obtain ⟨k1, hk1⟩ : ∃ k1, k1 = min n1 12 := ⟨_, rfl⟩
  obtain ⟨k2, hk2⟩ : ∃ k2, k2 = min n2 12 := ⟨_, rfl⟩
  have HK : Hid ((k1 ≤ x1.length ∧ k1 ≤ 12) ∧ k2 ≤ x2.length ∧ k2 ≤ 12) := by
    show _ ∧ _
    omega
  have cW := written_at w 1 T a1 n1 c1 x1 hl1 hr1 (by decide) iT
  rw [← hk1] at cW
  have HW2 : Hid (∀ u, Below w.heap.size w u → Calls Try.prog 6 #[.int .i64 2, .int .i64 (T : Int), .slice a2 n2 c2] u fun r u' => ∃ g dg v qs, r = .returned (.tuple #[.pointer (some ⟨dg, 0, none⟩), v, .bool true]) ∧ Sw u g dg 2 T (st9 2 T x2 k2) v qs u') := fun u bu => by
    have c := written_at u 2 T a2 n2 c2 x2 hl2 (hr2.below bu (Nat.le_refl _)) (by decide) iT
    rw [← hk2] at c
    exact c
  have H3 : Hid (x3.length = n3 ∧ RdBl w a3 x3 ∧ n3 ≤ 9223372036854775807 ∧ m5 < 256) := ⟨hl3, hr3, hn3, hm5⟩
  clear hl1 hr1 hl2 hr2 hl3 hr3 hn3 hm5 hk1 hk2
  go_enter Try.func3, Try.ntmps3
  go_wp2_with fail
  refine Calls.mono p1 ?_
  rintro r w0 ⟨rfl, rfl⟩
  clear p1
  go_wp2_with fail
  refine Calls.mono cW ?_
  rintro r u1 ⟨g1, d1, v1, qs1, rfl, hS1⟩
  obtain ⟨F1, hd1, hF1⟩ := hS1.disk
  have hB1 := hS1.bel
  obtain ⟨av1, cv1, rfl⟩ := Rc.owns_shape hS1.row
  have hok1 := ok9 1 T x1 k1 HK.out.1.1
  have cF := Dk.flush_at hd1
  rw [hok1.1.operE] at cF
  clear cW hS1
  go_wp2_with fail
  refine Calls.mono cF ?_
  rintro r u2 ⟨rfl, hd2, hu2⟩
  have B2 := hB1.trans (hu2.below hF1 hB1.size)
  have cW2 := HW2.out u2 B2
  clear cF hu2
  go_wp2_with fail
  refine Calls.mono cW2 ?_
  rintro r u3 ⟨g2, d2, v2, qs2, rfl, hS2⟩
  obtain ⟨av2, cv2, rfl⟩ := Rc.owns_shape hS2.row
  obtain ⟨F2, hd3, hF2⟩ := hS2.disk
  have hok2 := ok9 2 T x2 k2 HK.out.2.1
  have cP := Dk.pending_at hd3 (by have := hok2.2.2.1; have := HK.out.2.2; omega)
  clear cW2
  go_wp2_with fail
  refine Calls.mono cP ?_
  rintro r u4 ⟨v4, rfl, ho4, b4⟩
  obtain ⟨f1, f2, f3⟩ := st9_uf 2 T iT x2 k2 HK.out.2.1
  have hb2 := hS2.bel
  have HKS0 : Hid (KS w u2 u4 d1 (st9 1 T x1 k1).D.flush u4) := by
    obtain ⟨gd, cd, vu, ps, hl⟩ := hd2
    have bb := hb2.trans (b4.mono hb2.size)
    exact ⟨⟨F1, ⟨gd, cd, vu, ps, hl.kept (fun i hi => bb.block i (hl.flt i hi)) bb.size⟩, fun i hi => .inl ⟨hF1 i hi, hl.flt i hi⟩⟩, fun _ _ _ => rfl, B2.trans (bb.mono B2.size), by have := B2.size; have := bb.size; omega, Nat.le_refl _⟩
  have HAll : Hid (∀ u' : World, (∀ i, u2.heap.size ≤ i → i < u4.heap.size → u'.heap[i]? = u4.heap[i]?) → AllI u' av2 (iss9 (st9 2 T x2 k2).gs)) := fun u' hk => hS2.allI2 (fun i h1 h2 => (hk i h1 (by have := b4.size; omega)).trans (b4.block i h2))
  have HNew : Hid (Dk.IsDisk u4 d2 (st9 2 T x2 k2).D F2 ∧ ∀ i, F2 i → u2.heap.size ≤ i) := by
    obtain ⟨gd, cd, vu, ps, hl⟩ := hd3
    exact ⟨⟨gd, cd, vu, ps, hl.kept (fun i hi => b4.block i (hl.flt i hi)) b4.size⟩, hF2⟩
  obtain ⟨L, hL⟩ : ∃ L, L = blks 2 1 (iss9 (st9 2 T x2 k2).gs) := ⟨_, rfl⟩
  obtain ⟨U, hU⟩ : ∃ U, U = (st9 2 T x2 k2).U := ⟨_, rfl⟩
  have hU16 : U ≤ 16 := by rw [hU]; exact hok2.2.2.2.2.1
  rw [← hL, ← hU] at f2 f3
  have hlen : (st9 2 T x2 k2).D.uf.length = U := by rw [f3, J.wrs_length]
  rw [hlen] at ho4
  have HRg : Hid (∀ k, k < U → (st9 2 T x2 k2).D.stand (2 + (T + k) % 16) = L.getD k [] ∧ (L.getD k []).length = 4096) := fun k hk => by
    have h1 := rg_in (D := (st9 2 T x2 k2).D) (t := T) (L := L) (by rw [← f2]; exact f3) (by omega) k (by omega)
    have h2 := (okAll_marks (st9_ok 2 T (by decide) x2 k2 HK.out.2.1 HK.out.2.2) k (by rw [← hL]; omega)).1
    have e : L.getD k [] = L[k]'(by omega) := by simp [show k < L.length by omega]
    refine ⟨by rw [e]; exact h1, ?_⟩
    rw [e]
    simpa only [← hL] using h2
  have HPc : Hid (∀ k, k < U → ∃ g4 c4, v4 = .slice (some ⟨g4, 0, none⟩) U c4 ∧ ∀ u' : World, (∀ i, u2.heap.size ≤ i → i < u4.heap.size → u'.heap[i]? = u4.heap[i]?) → u'.cell? ⟨g4, k, none⟩ = some (.int .i64 ((2 + (T + k) % 16 : Nat) : Int))) := fun k hk => by
    obtain ⟨a4, c4, rfl⟩ := Rc.owns_shape ho4
    obtain ⟨g4, rfl, h1, ⟨cur, h2⟩, hc⟩ := Rc.owns_cells ho4 (by omega)
    refine ⟨g4, c4, rfl, fun u' hk' => ?_⟩
    have hz := hb2.size
    rw [World.cell?_of_block (a := ⟨g4, k, none⟩) (hk' g4 (by omega) h2.lt), hc k (by omega), ← hlen, Dk.pend_all, f3]
    have : k < (J.wrs 16 T L U).length := by rw [J.wrs_length]; exact hk
    simp [J.wrs, Dk.ic, hk]
  obtain ⟨a4, c4, rfl⟩ := Rc.owns_shape ho4
  obtain ⟨hcap1, hcap2, hcap3⟩ := hS2.cap
  have HN : Hid (qs2.length = (st9 2 T x2 k2).gs.length) := hS2.len
  obtain ⟨N, hNe⟩ : ∃ N, N = qs2.length := ⟨_, rfl⟩
  rw [← hNe] at hcap2 HN ⊢
  have H32 : Hid (∀ l ∈ iss9 (st9 2 T x2 k2).gs, l.length ≤ 32) := im9_all _ hok2.2.2.2.2.2.2
  have HG12 : Hid ((st9 2 T x2 k2).gs.length ≤ 12) := Nat.le_trans hok2.2.2.2.2.2.1 HK.out.2.2
  have hN12 : N ≤ 12 := by rw [HN.out]; exact HG12.out
  have HDf : Hid (J.Calm (st9 1 T x1 k1).D.flush ∧ (st9 1 T x1 k1).D.flush.nb = 64 ∧ (st9 1 T x1 k1).D.flush.uf = [] ∧ (st9 1 T x1 k1).D.flush.n ≤ 72) := by
    obtain ⟨e1, e2⟩ := hok1.1.flush
    refine ⟨e2, by rw [e1]; exact hok1.2.1, by rw [e1], ?_⟩
    rw [e1]
    show (st9 1 T x1 k1).D.n ≤ 72
    have := hok1.2.2.2.1
    have := HK.out.1.2
    omega
  have HTl : Hid (∀ (fl : Bool) (xs : List Gx), Run (endD fl (J.grow (st9 1 T x1 k1).D.flush 16 T L U) x3 z4 m5) T 2 0 1 xs → xs.map (fun x => gimgs (endD fl (J.grow (st9 1 T x1 k1).D.flush 16 T L U) x3 z4 m5) T x.b) = (iss9 (st9 2 T x2 k2).gs).take xs.length ∧ xs.length ≤ (st9 2 T x2 k2).gs.length ∧ (fl = true → xs.length = (st9 2 T x2 k2).gs.length)) := fun fl xs hr => by
    have hof := isDisk_ok hd2
    refine kept_tells (Dg := J.grow (st9 1 T x1 k1).D.flush 16 T L U) iT HK.out.2.1 HK.out.2.2 (old_noE T iT x1 k1 HK.out.1.1 HK.out.1.2 (isDisk_ok hd1)) HDf.out.2.2.1 HDf.out.1 HDf.out.2.1 (by rw [hL, hU]) ⟨hof.len, hof.lo, hof.hi, fun p hp => ?_, hof.arm, hof.fail⟩ fl x3 z4 m5 hr
    have hp2 : p ∈ J.wrs 16 T L U := by
      have : p ∈ (st9 1 T x1 k1).D.flush.uf ++ J.wrs 16 T L U := hp
      rw [HDf.out.2.2.1] at this
      simpa using this
    obtain ⟨i, hi, rfl⟩ := List.mem_map.1 hp2
    have hi' : i < U := by simpa using hi
    exact ⟨by show 2 + (T + i) % 16 < (st9 1 T x1 k1).D.flush.nb; rw [HDf.out.2.1]; omega, (HRg.out i hi').2⟩
  have HC : Hid (∀ {D : Dk.DS} (u : World), KS w u2 u4 d1 D u → Calls Try.prog 11 #[.pointer (some ⟨d1, 0, none⟩), .slice a3 n3 c3, .int .i64 z4, .int .u8 (m5 : Int)] u fun e w' => e = .returned (.int .i64 0) ∧ KS w u2 u4 d1 (D.crash x3 z4 m5) w') := fun u h => h.crash a3 n3 c3 x3 z4 m5 H3.out.2.2.2 H3.out.1 H3.out.2.2.1 H3.out.2.1
  have HNB2 : Hid ((st9 2 T x2 k2).D.nb = 64) := hok2.2.1
  have HG2 : Hid ((st9 2 T x2 k2).D.gone = false) := hok2.1.1
  have HUL : Hid ((st9 2 T x2 k2).D.uf.length = U) := hlen
  clear hd1 hd2 hd3 hS2 ho4 b4 hb2 B2 hB1 cP f1 f2 f3 hlen hL hU hcap1 hNe hF1 hF2 hok1 hok2 HW2 H3
  unfold maxLen at hcap3
  go_wp2_with fail
  go_loopw [21] (fun i u => ∃ (k : Nat), k ≤ U ∧ i = .int .i64 (k : Int) ∧ KS w u2 u4 d1 (J.grow (st9 1 T x1 k1).D.flush 16 T L k) u) (fun i _ => U - (intOf i).toNat)
  case atStart => exact ⟨0, Nat.zero_le _, rfl, by rw [J.grow_zero]; exact HKS0.out⟩
  case round =>
    obtain ⟨k, hk, rfl, hKS⟩ := hrel
    by_cases hlt : k < U
    · obtain ⟨g4, c4', e4, hpc⟩ := HPc.out k hlt
      injection e4 with e4 _ e5
      subst e4 e5
      have hcell := hpc wr hKS.keep
      obtain ⟨hst, hln⟩ := HRg.out k hlt
      obtain ⟨P, hP⟩ : ∃ P, P = 2 + (T + k) % 16 := ⟨_, rfl⟩
      have hP64 : P < 64 := by omega
      rw [← hP] at hcell hst
      have cR := Dk.read_at (hKS.fresh HNew.out.1 HNew.out.2) P (by rw [HNB2.out]; exact hP64) HG2.out (by have := HUL.out; omega)
      rw [hst] at cR
      have HP : Hid (P = 2 + (T + k) % 16) := hP
      have HLn : Hid ((L.getD k []).length = 4096) := hln
      have HKS : Hid (KS w u2 u4 d1 (J.grow (st9 1 T x1 k1).D.flush 16 T L k) wr) := hKS
      clear hKS hP hst hln hpc
      go_wp2_with fail
      refine Calls.mono cR ?_
      rintro r u5 ⟨gr, cr, rfl, hgr, hrow, b5⟩
      have hcell5 : u5.cell? ⟨g4, k, none⟩ = some (.int .i64 (P : Int)) := (b5.cell (p := ⟨g4, k, none⟩) (block_lt_of_cell hcell)).trans hcell
      have hgu : (J.grow (st9 1 T x1 k1).D.flush 16 T L k).uf.length = k := by
        show ((st9 1 T x1 k1).D.flush.uf ++ J.wrs 16 T L k).length = k
        rw [HDf.out.2.2.1, List.nil_append, J.wrs_length]
      have cWr := HKS.out.write b5 (J.grow_calm HDf.out.1 16 T L k) HDf.out.2.1 ⟨by rw [hgu]; omega, by show (st9 1 T x1 k1).D.flush.n + k ≤ 1000; have := HDf.out.2.2.2; omega⟩ P gr cr hP64 (L.getD k []) HLn.out hrow.rd hgr
      clear hrow cR hgu hgr
      go_wp2_with fail
      refine Calls.mono cWr ?_
      rintro r u6 ⟨rfl, hK6⟩
      have hK7 : KS w u2 u4 d1 (J.grow (st9 1 T x1 k1).D.flush 16 T L (k + 1)) u6 := by
        rw [J.grow_one, ← HP.out]
        exact hK6
      clear hK6 cWr
      go_wp2_with fail
      go_roundw
      case rel => exact ⟨k + 1, by omega, by push_cast; rfl, hK7⟩
      case measure => simp [intOf]; omega
    · have hkU : k = U := by omega
      subst hkU
      cases b6 with
      | false =>
        go_wp2_with fail
        have hDg : KS w u2 u4 d1 (J.grow (st9 1 T x1 k1).D.flush 16 T L k) wr := hKS
        clear hKS
        have HNB : Hid ((endD false (J.grow (st9 1 T x1 k1).D.flush 16 T L k) x3 z4 m5).nb = 64) := HDf.out.2.1
        refine Calls.mono (HC.out _ hDg) ?_
        rintro r u6 ⟨rfl, hC⟩
        have HKS : Hid (KS w u2 u4 d1 (endD false (J.grow (st9 1 T x1 k1).D.flush 16 T L k) x3 z4 m5) u6) := hC
        clear hC hDg
        have cL := layout64_at u6
        unfold lay at cL
        go_wp2_with fail
        refine Calls.mono cL ?_
        rintro r u7 ⟨rfl, b7⟩
        have hK7 := HKS.out.below b7
        obtain ⟨F7, hd7, _⟩ := hK7.dsk
        have cG := groups_at hd7 HNB.out (by rfl) (by show 0 ≤ 1000000; decide) T 2 1 iT (by decide) (by decide)
        unfold lay at cG
        clear cL
        go_wp2_with fail
        refine Calls.mono cG ?_
        rintro r u8 ⟨xs, a8, c8, rfl, hrun, ho8, hg8, b8⟩
        obtain ⟨q1, q2, q3⟩ := HTl.out false xs hrun
        have hGs := gsI_of hrun ho8 hg8
        rw [q1] at hGs
        have hK8 := hK7.below b8
        have hAl := (HAll.out u8 hK8.keep).take xs.length
        have cS := same_at u8 a8 av2 xs.length c8 cv2 2 ((iss9 (st9 2 T x2 k2).gs).take xs.length) (by rw [List.length_take, iss9, List.length_map]; omega) (by have := HG12.out; omega) (fun l hl => H32.out l (List.mem_of_mem_take hl)) hGs hAl
        have B8 := hK8.bel
        have hmN : xs.length ≤ N := by rw [HN.out]; exact q2
        generalize xs.length = m at cS hmN ⊢
        clear cG q1 q2 q3 hGs hAl hK7 hd7 hrun ho8 hg8 hK8 b7 b8
        go_wp2_with fail
        refine Calls.mono cS ?_
        rintro r u9 ⟨rfl, b9⟩
        have B9 := B8.trans (b9.mono B8.size)
        have cA := awake_at u9
        go_wp2_with fail
        refine Calls.mono cA ?_
        rintro r u10 ⟨rfl, b10⟩
        go_wp2_with fail
        go_ret
        exact ⟨rfl, B9.trans (b10.mono B9.size)⟩
      | true =>
        have cF := hKS.flush (J.grow_calm HDf.out.1 16 T L k)
        clear hKS
        go_wp2_with fail
        refine Calls.mono cF ?_
        rintro r u5 ⟨rfl, hK5⟩
        have hDg : KS w u2 u4 d1 (J.grow (st9 1 T x1 k1).D.flush 16 T L k).flush u5 := hK5
        clear hK5 cF
        have HNB : Hid ((endD true (J.grow (st9 1 T x1 k1).D.flush 16 T L k) x3 z4 m5).nb = 64) := by
          show (J.grow (st9 1 T x1 k1).D.flush 16 T L k).flush.nb = 64
          rw [(J.grow_calm HDf.out.1 16 T L k).flush.1]
          exact HDf.out.2.1
        go_wp2_with fail
        refine Calls.mono (HC.out _ hDg) ?_
        rintro r u6 ⟨rfl, hC⟩
        have HKS : Hid (KS w u2 u4 d1 (endD true (J.grow (st9 1 T x1 k1).D.flush 16 T L k) x3 z4 m5) u6) := hC
        clear hC hDg
        have cL := layout64_at u6
        unfold lay at cL
        go_wp2_with fail
        refine Calls.mono cL ?_
        rintro r u7 ⟨rfl, b7⟩
        have hK7 := HKS.out.below b7
        obtain ⟨F7, hd7, _⟩ := hK7.dsk
        have cG := groups_at hd7 HNB.out (by rfl) (by show 0 ≤ 1000000; decide) T 2 1 iT (by decide) (by decide)
        unfold lay at cG
        clear cL
        go_wp2_with fail
        refine Calls.mono cG ?_
        rintro r u8 ⟨xs, a8, c8, rfl, hrun, ho8, hg8, b8⟩
        obtain ⟨q1, q2, q3⟩ := HTl.out true xs hrun
        have hGs := gsI_of hrun ho8 hg8
        rw [q1] at hGs
        have hK8 := hK7.below b8
        have hAl := (HAll.out u8 hK8.keep).take xs.length
        have cS := same_at u8 a8 av2 xs.length c8 cv2 2 ((iss9 (st9 2 T x2 k2).gs).take xs.length) (by rw [List.length_take, iss9, List.length_map]; omega) (by have := HG12.out; omega) (fun l hl => H32.out l (List.mem_of_mem_take hl)) hGs hAl
        have B8 := hK8.bel
        have hmN : xs.length ≤ N := by rw [HN.out]; exact q2
        have hmE : xs.length = N := by rw [HN.out, q3 rfl]
        rw [hmE] at cS ⊢
        clear hmE hmN
        clear cG q1 q2 q3 hGs hAl hK7 hd7 hrun ho8 hg8 hK8 b7 b8
        go_wp2_with fail
        refine Calls.mono cS ?_
        rintro r u9 ⟨rfl, b9⟩
        have B9 := B8.trans (b9.mono B8.size)
        have cA := awake_at u9
        go_wp2_with fail
        refine Calls.mono cA ?_
        rintro r u10 ⟨rfl, b10⟩
        go_wp2_with fail
        go_ret
        exact ⟨rfl, B9.trans (b10.mono B9.size)⟩
end Go.Proofs.Ytkhejjddmbegaaa.S
