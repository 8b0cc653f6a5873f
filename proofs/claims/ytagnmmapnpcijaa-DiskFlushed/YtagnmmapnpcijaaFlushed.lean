/-
  DiskFlushed.
-/
import Derived.Test.YtagnmmapnpcijaaTri
namespace Go.Proofs.Ytagnmmapnpcijaa
open Go.RowKit

set_option maxRecDepth 100000 in
set_option maxHeartbeats 4000000 in
theorem flushed_walk (a : Option Addr) (n cap : Nat) (zs : List Int) (ak : Option Addr) (nk ck : Nat) (ks : List Bool) (t : Int) (m : Nat) (w : World) (hl : zs.length = n) (hn : n ≤ 9223372036854775807) (hr : RdI w a zs)
    (hm : m < 256) (hks : ks.length = nk) (hnk : nk ≤ 9223372036854775807) (hrk : RdBl w ak ks) :
    Calls Try.prog 8 #[.slice a n cap, .slice ak nk ck, .int .i64 t, .int .u8 (m : Int)] w fun e w' => e = .returned (.bool true) ∧ Below w.heap.size w w' := by
  have cM := made_walk a n cap zs w hl hn hr
  have Hk : Hid (RdBl w ak ks) := hrk
  have Hks : Hid _ := hks
  clear hl hr hrk hks
  go_enter Try.func8, Try.ntmps8
  go_wp2_with fail
  refine cM.mono ?_
  rintro e w1 ⟨g, gs, rfl, D, F, gf, vf, hd, hF, B1, _, hq, hnb, hu, _⟩
  clear cM
  have hn4 : D.nb * 4096 = 16384 := by rw [hnb]
  have cI := image_at hd
  rw [hn4] at cI
  have Hd : Hid (IsDisk w1 g D F) := hd
  have HF : Hid _ := hF
  have HB : Hid _ := B1
  have Hq : Hid D.quiet := hq
  have Hn : Hid _ := hn4
  have Hu : Hid _ := hu
  clear hd hF B1 hq hnb hn4 hu
  go_wp2_with fail
  refine cI.mono ?_
  rintro e w2 ⟨gi, ci, rfl, hgi, r2, b2⟩
  clear cI
  have cX := copy_at (IsDisk.below Hd.out b2) (by have := Hu.out; omega)
  go_wp2_with fail
  refine cX.mono ?_
  rintro e w3 ⟨gx, rfl, nx⟩
  clear cX
  have b3 : Below w2.heap.size w2 w3 := by obtain ⟨_, _, _, b⟩ := nx; exact b
  have cY := copy_at (IsDisk.below (IsDisk.below Hd.out b2) b3) (by have := Hu.out; omega)
  have Nx : Hid (NewDisk w2 w3 gx D.copy) := nx
  clear nx b3
  go_wp2_with fail
  refine cY.mono ?_
  rintro e w4 ⟨gy, rfl, ny⟩
  clear cY
  have T4 := Tri.start Hd.out HF.out HB.out hgi r2 b2 Nx.out ny
  obtain ⟨top, htop⟩ : ∃ top, top = w4.heap.size := ⟨_, rfl⟩
  rw [← htop] at T4
  clear ny Nx r2 b2 hgi Hd HF HB
  obtain ⟨u, hu⟩ : ∃ u, u = D.uf.length := ⟨_, rfl⟩
  have u30 : u ≤ 30 := by rw [hu]; exact Hu.out
  obtain ⟨Gd, dd⟩ := T4.isD.1
  have cP := pending_at dd (by have := Hu.out; omega)
  rw [← hu] at cP
  have Htop : Hid _ := htop
  have Huu : Hid _ := hu
  clear htop hu dd
  go_wp2_with fail
  refine cP.mono ?_
  rintro e w5 ⟨vp, rfl, op, b5⟩
  clear cP
  obtain ⟨ap, cp, rfl⟩ : ∃ a c, vp = .slice a u c := by
    rcases op.2 with ⟨h, h0⟩ | ⟨gv, cc, cur, hv, _⟩
    · exact ⟨none, 0, by rw [h, h0]⟩
    · exact ⟨_, cc, hv⟩
  have T5 := T4.below b5
  have t5 : top ≤ w5.heap.size := by rw [Htop.out]; exact b5.size
  have mk := make30_run u (by omega)
  clear op b5 T4
  obtain ⟨ga, hga⟩ : ∃ ga, ga = w5.heap.size := ⟨_, rfl⟩
  obtain ⟨V, hV⟩ : ∃ V, V = w5.alloc (.cells (bls (List.replicate u false)) 4) := ⟨_, rfl⟩
  have bA : Below w5.heap.size w5 V := by rw [hV]; exact (Below.refl _ _).alloc (Nat.le_refl _) _
  have xV : Box V ga (bls (trues u 0)) 4 := by
    rw [hV, hga]
    have : trues u 0 = List.replicate u false := by simp [trues]
    rw [this]
    exact Box.new _ _ _
  have T6 := T5.below bA
  have tga : top ≤ ga := by rw [hga]; exact t5
  have HV : Hid _ := hV
  have HG : Hid _ := hga
  clear hV hga T5 bA t5
  go_wp2_with fail
  rw [← HV.out, ← HG.out]
  clear HV HG mk
  go_loopw [15] (fun i wr => ∃ k : Nat, k ≤ u ∧ i = .int .i64 k ∧ Box wr ga (bls (trues u k)) 4 ∧ Tri w wr top g gx gy gi ci D D.copy D.copy D.image) (fun i _ => u - (intOf i).toNat)
  case atStart => exact ⟨0, by omega, rfl, xV, T6⟩
  case round =>
    clear xV T6
    obtain ⟨k, hk, rfl, xk, T⟩ := hrel
    by_cases hlt : k < u
    · have ck0 := bls_cell xk k (by rw [trues_length u k hk]; exact hlt)
      generalize (trues u k)[k]'(by rw [trues_length u k hk]; exact hlt) = bb at ck0
      have fz := xk.frozen k
      have x' := xk.store k (.bool true)
      rw [trues_set u k hlt] at x'
      have T' : Tri w (wr.setCell ⟨ga, k, none⟩ (.bool true)) top g gx gy gi ci D D.copy D.copy D.image := by
        obtain ⟨F1, F2, F3, h1, h2, h3, h4, h5, h6, h7, B⟩ := T
        have no : ∀ i, F1 i ∨ F2 i ∨ F3 i → i ≠ ga := fun i hi e => by have := (h5 i hi).2.1; omega
        have wge : w.heap.size ≤ ga := by
          have := h5 _ (.inl (by obtain ⟨_, _, _, _, l⟩ := h1; exact l.fg))
          omega
        refine ⟨F1, F2, F3, h1.storeOut ga k _ (fun h => no ga (.inl h) rfl), h2.storeOut ga k _ (fun h => no ga (.inr (.inl h)) rfl), h3.storeOut ga k _ (fun h => no ga (.inr (.inr h)) rfl), h4.same (heap_setCell_other wr ⟨ga, k, none⟩ gi _ ?_), h5, h6, h7, B.setCell (p := ⟨ga, k, none⟩) wge _⟩
        obtain ⟨cur, hb, _⟩ := h4
        exact hb.ne xk (by decide)
      clear xk T
      go_wp2_with fail
      go_roundw
      case rel => exact ⟨k + 1, by omega, by go_num, x', T'⟩
      case measure => simp [intOf]; omega
    · have hku : k = u := by omega
      subst k
      have hrA := bls_rd xk
      have cC := T.crashX (some ⟨ga, 0, none⟩) u u (trues u u) (-1) 0 0 rfl (by omega) (trues_length u u (Nat.le_refl _)) (by omega) hrA (fun ad h _ => by cases h; exact .inr tga)
      clear hrA xk T
      go_wp2_with fail
      refine cC.mono ?_
      rintro e w6 ⟨rfl, T6⟩
      clear cC
      have cF := T6.flushY (by exact DS.quiet.operE Hq.out)
      clear T6
      go_wp2_with fail
      refine cF.mono ?_
      rintro e w7 ⟨rfl, T7⟩
      clear cF
      have hk7 : RdBl w7 ak ks := by
        intro h0
        obtain ⟨b, o, hb, hc⟩ := Hk.out h0
        exact ⟨b, o, hb, fun j hj => by rw [T7.bel.cell (p := ⟨b, o + j, none⟩) (block_lt_of_cell (hc j hj))]; exact hc j hj⟩
      have cK := T7.crashY ak nk ck ks t m (m : Int) rfl hm Hks.out hnk hk7 (fun ad h h0 => by
        obtain ⟨b, o, hb, hc⟩ := Hk.out (by rw [Hks.out]; exact h0)
        rw [h] at hb
        cases hb
        exact .inl (block_lt_of_cell (hc 0 (by rw [Hks.out]; exact h0))))
      clear T7 hk7
      go_wp2_with fail
      refine cK.mono ?_
      rintro e w8 ⟨rfl, T8⟩
      clear cK
      have q1 : D.copy.quiet := Hq.out
      have i1 : (D.copy.crash (trues u u) (-1) 0).image = D.image := crash_all D.copy (trues u u) 0 (fun k hk => trues_keeps u k (by rw [Huu.out]; exact hk))
      have i2 := flush_crash D.copy q1 ks t m
      have nD : (D.copy.crash (trues u u) (-1) 0).nb * 4096 = 16384 := Hn.out
      have nY : (D.copy.flush.crash ks t m).nb * 4096 = 16384 := by
        rw [q1.flush]
        exact Hn.out
      have hil : D.image.length = 16384 := by
        obtain ⟨G, h⟩ := T8.isD.1
        have := carryTo_length D h.ok D.dur rfl D.uf.length
        have e := h.ok.len
        have e2 := Hn.out
        show (carryTo D.uf D.dur D.uf.length).length = _
        omega
      obtain ⟨Dx, hDx⟩ : ∃ Dx, Dx = D.copy.crash (trues u u) (-1) 0 := ⟨_, rfl⟩
      obtain ⟨Dy, hDy⟩ : ∃ Dy, Dy = D.copy.flush.crash ks t m := ⟨_, rfl⟩
      rw [← hDx] at T8 i1 nD
      rw [← hDy] at T8 i2 nY
      have i3 : Dy.image = D.image := i2.1
      have i4 : Dy.uf = [] := i2.2
      have nO := Hn.out
      obtain ⟨im, him⟩ : ∃ im, im = D.image := ⟨_, rfl⟩
      have Him : Hid _ := him
      rw [← him] at T8 i1 i3 hil
      have iO : Hid (D.image = im) := him.symm
      have I1 : Hid _ := i1
      have I3 : Hid _ := i3
      have I4 : Hid _ := i4
      have N1 : Hid _ := nD
      have N3 : Hid _ := nY
      have NO : Hid _ := nO
      have HL : Hid _ := hil
      clear hDx hDy i1 i2 i3 i4 nD nY nO hil him Him q1 Hn
      have cI := T8.image gx Dx T8.isD.2.1 N1.out I1.out
      clear T8
      go_wp2_with fail
      refine cI.mono ?_
      rintro e w9 ⟨gj, cj, rfl, T9, r9⟩
      clear cI
      have cS := same_at cj ci 16384 16384 _ _ im im w9 HL.out HL.out r9.rd T9.row.rd
      rw [beq_self_eq_true] at cS
      clear r9
      go_wp2_with fail
      refine cS.mono ?_
      rintro e w10 ⟨rfl, rfl⟩
      clear cS
      have cI := T9.image gy Dy T9.isD.2.2 N3.out I3.out
      clear T9
      go_wp2_with fail
      refine cI.mono ?_
      rintro e w10 ⟨gj2, cj2, rfl, T10, r10⟩
      clear cI
      have cS := same_at cj2 ci 16384 16384 _ _ im im w10 HL.out HL.out r10.rd T10.row.rd
      rw [beq_self_eq_true] at cS
      clear r10
      go_wp2_with fail
      refine cS.mono ?_
      rintro e w11 ⟨rfl, rfl⟩
      clear cS
      have cI := T10.image g D T10.isD.1 NO.out iO.out
      clear T10
      go_wp2_with fail
      refine cI.mono ?_
      rintro e w11 ⟨gj3, cj3, rfl, T11, r11⟩
      clear cI
      have cS := same_at cj3 ci 16384 16384 _ _ im im w11 HL.out HL.out r11.rd T11.row.rd
      rw [beq_self_eq_true] at cS
      clear r11
      go_wp2_with fail
      refine cS.mono ?_
      rintro e w12 ⟨rfl, rfl⟩
      clear cS
      obtain ⟨G3, d3⟩ := T11.isD.2.2
      have cP := pending_at d3 (by rw [I4.out]; simp)
      rw [I4.out] at cP
      clear d3
      go_wp2_with fail
      refine cP.mono ?_
      rintro e w12 ⟨vp, rfl, op, b12⟩
      clear cP
      obtain ⟨ap2, cp2, rfl⟩ : ∃ a c, vp = .slice a 0 c := by
        rcases op.2 with ⟨h, h0⟩ | ⟨gv, cc, cur, hv, _⟩
        · exact ⟨none, 0, h⟩
        · exact ⟨_, cc, hv⟩
      have B12 := T11.bel.trans (b12.mono T11.bel.size)
      clear op b12 T11
      go_wp2_with fail
      refine (awake_any _).mono ?_
      rintro e w13 ⟨rfl, b13⟩
      have B13 := B12.trans (b13.mono B12.size)
      go_wp2_with fail
      go_ret
      exact ⟨rfl, B13⟩
end Go.Proofs.Ytagnmmapnpcijaa
