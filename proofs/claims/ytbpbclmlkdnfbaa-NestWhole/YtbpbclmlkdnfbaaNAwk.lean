/-
  The chapter's example.
-/
import Derived.Test.YtbpbclmlkdnfbaaNAwD
import Derived.Deep.RegionHeld3
namespace Go.Proofs.Ytbpbclmlkdnfbaa.T
open Go.RowKit Go.Proofs.Ytbpbclmlkdnfbaa.C
theorem f0 : (C.M0 1).fill 0 (.int .i64 1) = (aS, 0) := rfl
theorem r1 : (aX [] [] []).read aS 0 = (1, 0, aS, aX [(0, 0)] [] []) := rfl
theorem r2 : (aX [(0, 0)] [(0, 2)] []).read aS 0 = (2, 0, aS, aX [(0, 0)] [(0, 2)] []) := rfl
theorem r3 : (aX [(0, 0)] [(0, 7)] []).read aS 0 = (7, 0, aS, aX [(0, 0)] [(0, 7)] []) := rfl
theorem s1 : (aX [] [] []).open1.write aS 0 2 = (0, aX [] [(0, 2)] [[]]) := rfl
theorem s1' : (aX [] [] []).left1 (aX [] [(0, 2)] [[]]) 2 = aX [] [] [] := rfl
theorem s2 : (aX [(0, 0)] [] []).open1.write aS 0 2 = (0, aX [(0, 0)] [(0, 2)] [[]]) := rfl
theorem s3 : (aX [(0, 0)] [(0, 2)] [[]]).open1.write aS 0 3 = (0, aX [(0, 0)] [(0, 3)] [[], [(0, 2)]]) := rfl
theorem s3' : (aX [(0, 0)] [] []).left1 ((aX [(0, 0)] [(0, 2)] [[]]).left1 (aX [(0, 0)] [(0, 3)] [[], [(0, 2)]]) 5) 0 = aX [(0, 0)] [(0, 2)] [] := rfl
theorem l1 : (aX [(0, 0)] [(0, 2)] []).open1.open1.write aS 0 5 = (0, aX [(0, 0)] [(0, 5)] [[(0, 2)], [(0, 2)]]) := rfl
theorem l2 : (aX [(0, 0)] [(0, 2)] []).open1.left1 (aX [(0, 0)] [(0, 5)] [[(0, 2)], [(0, 2)]]) 0 = aX [(0, 0)] [(0, 5)] [[(0, 2)]] := rfl
theorem l3 : (aX [(0, 0)] [(0, 5)] [[(0, 2)]]).open1.write aS 0 6 = (0, aX [(0, 0)] [(0, 6)] [[(0, 2)], [(0, 5)]]) := rfl
theorem l4 : (aX [(0, 0)] [(0, 5)] [[(0, 2)]]).left1 (aX [(0, 0)] [(0, 6)] [[(0, 2)], [(0, 5)]]) 2 = aX [(0, 0)] [(0, 5)] [[(0, 2)]] := rfl
theorem l5 : (aX [(0, 0)] [(0, 2)] []).left1 (aX [(0, 0)] [(0, 5)] [[(0, 2)]]) 2 = aX [(0, 0)] [(0, 2)] [] := rfl
theorem k1 : (aX [(0, 0)] [(0, 2)] []).open1.write aS 0 8 = (0, aX [(0, 0)] [(0, 8)] [[(0, 2)]]) := rfl
theorem k2 : (aX [(0, 0)] [(0, 2)] []).left1 (aX [(0, 0)] [(0, 8)] [[(0, 2)]]) 5 = aX [(0, 0)] [(0, 2)] [] := rfl
theorem k3 : (aX [(0, 0)] [(0, 2)] []).open1.write aS 0 7 = (0, aX [(0, 0)] [(0, 7)] [[(0, 2)]]) := rfl
theorem k4 : (aX [(0, 0)] [(0, 2)] []).left1 (aX [(0, 0)] [(0, 7)] [[(0, 2)]]) 0 = aX [(0, 0)] [(0, 7)] [] := rfl
theorem Awk.bel {w0 u : World} {m gm g tb fb : Nat} {x : TX} (h : Awk w0 u m gm g tb fb x) : Below w0.heap.size w0 u := by
  obtain ⟨G, h, _⟩ := h
  exact h.bel
theorem Awk.cells {w0 u : World} {m gm g tb fb : Nat} {x : TX} (h : Awk w0 u m gm g tb fb x) : u.cell? ⟨tb, 0, none⟩ = some (.pointer (some ⟨g, 0, none⟩)) ∧ u.cell? ⟨fb, 0, none⟩ = some (.func (.func 51) #[] #[.pointer (some ⟨tb, 0, none⟩)]) := by
  obtain ⟨G, h, _, _, b1, b2⟩ := h
  exact ⟨b1.cell 0, b2.cell 0⟩
theorem Awk.cells2 {w0 u ux : World} {m gm g tb fb vb eb : Nat} {v e : Int} {x : TX} (h : Awk w0 u m gm g tb fb x) (hN : New2 u ux vb eb v e) : ux.cell? ⟨tb, 0, none⟩ = some (.pointer (some ⟨g, 0, none⟩)) ∧ ux.cell? ⟨fb, 0, none⟩ = some (.func (.func 51) #[] #[.pointer (some ⟨tb, 0, none⟩)]) := by
  obtain ⟨G, h, _, _, b1, b2⟩ := h
  exact ⟨(b1.below hN.bel b1.lt).cell 0, (b2.below hN.bel b2.lt).cell 0⟩
theorem Awk.cells3 {w0 u ux uy : World} {m gm g tb fb vb eb vb2 eb2 : Nat} {v e v2 e2 : Int} {x : TX} (h : Awk w0 u m gm g tb fb x) (hN : New2 u ux vb eb v e) (hM : New2 ux uy vb2 eb2 v2 e2) : uy.cell? ⟨tb, 0, none⟩ = some (.pointer (some ⟨g, 0, none⟩)) ∧ uy.cell? ⟨fb, 0, none⟩ = some (.func (.func 51) #[] #[.pointer (some ⟨tb, 0, none⟩)]) ∧ (∀ o, (uy.alloc o).cell? ⟨tb, 0, none⟩ = some (.pointer (some ⟨g, 0, none⟩))) ∧ ∀ o, (uy.alloc o).cell? ⟨fb, 0, none⟩ = some (.func (.func 51) #[] #[.pointer (some ⟨tb, 0, none⟩)]) := by
  obtain ⟨G, h, _, _, b1, b2⟩ := h
  have c1 := b1.below hN.bel b1.lt
  have c2 := b2.below hN.bel b2.lt
  have d1 := c1.below hM.bel c1.lt
  have d2 := c2.below hM.bel c2.lt
  exact ⟨d1.cell 0, d2.cell 0, fun o => (d1.alloc o).cell 0, fun o => (d2.alloc o).cell 0⟩
theorem Awk.start {w0 u1 : World} {m gm g : Nat} {x : TX} {G : Nat → Prop} (h : Hg w0 u1 m gm aS [(g, x)] G) : Awk w0 ((u1.alloc (.cells #[.pointer (some ⟨g, 0, none⟩)] 42)).alloc (.cells #[.func (.func 51) #[] #[.pointer (some ⟨u1.heap.size, 0, none⟩)]] 82)) m gm g u1.heap.size (u1.heap.size + 1) x := by
  have s1 : (u1.alloc (.cells #[.pointer (some ⟨g, 0, none⟩)] 42)).heap.size = u1.heap.size + 1 := by simp
  have b2 := Box.new (u1.alloc (.cells #[.pointer (some ⟨g, 0, none⟩)] 42)) #[.func (.func 51) #[] #[.pointer (some ⟨u1.heap.size, 0, none⟩)]] 82
  rw [s1] at b2
  exact ⟨G, (h.alloc _).alloc _, fun hg => by have := h.lt hg; omega, fun hg => by have := h.lt hg; omega, (Box.new u1 _ 42).alloc _, b2⟩
set_option maxHeartbeats 8000000 in
set_option maxRecDepth 100000 in
theorem awake17_at (w : World) : Calls Try.prog 24 #[] w fun r w' => r = .returned (.bool true) ∧ Below w.heap.size w w' := by
  have hmf : ∀ (fn : Fn) (first cap : Array Value) (w : World), (Instr.makeFunc fn first cap).run Try.prog w = .ok (.func fn first cap) w := fun _ _ _ _ => rfl
  have hst : ∀ (a : Addr) (f : Fn) (fs cs : Array Value) (w : World), (store a (.func f fs cs)).run Try.prog w = stored Try.prog w a (.func f fs cs) .plain := fun a f fs cs w => run_store Try.prog w a _ _ rfl
  have h51 := enter51
  have cn := hg_new (n := 1) (Below.refl w.heap.size w) (by omega) (by omega)
  unfold ptr at cn
  go_enter Try.func24, Try.ntmps24
  go_wp2_with fail
  refine Calls.mono cn ?_
  rintro e w1 ⟨m, gm, rfl, h, _⟩
  have c1 := h.fill (V := fun _ => False) 0 1 f0
  unfold ptr at c1
  clear h cn
  go_wp2_with fail
  refine Calls.mono c1 ?_
  rintro e w2 ⟨rfl, h⟩
  have c2 := h.has.begin (V := fun _ => False) 1 (by omega) (by omega)
  unfold ptr at c2
  clear h c1
  go_wp2_with fail
  refine Calls.mono c2 ?_
  rintro e w3 ⟨g, rfl, h⟩
  have A0 : Hid (Awk w ((w3.alloc (.cells #[.pointer (some ⟨g, 0, none⟩)] 42)).alloc (.cells #[.func (.func 51) #[] #[.pointer (some ⟨w3.heap.size, 0, none⟩)]] 82)) m gm g w3.heap.size (w3.heap.size + 1) (aX [] [] [])) := Awk.start h.has
  clear h c2
  go_upto_region 8 with fail
  obtain ⟨w4, hw4⟩ : ∃ w4, w4 = (w3.alloc (.cells #[.pointer (some ⟨g, 0, none⟩)] 42)).alloc (.cells #[.func (.func 51) #[] #[.pointer (some ⟨w3.heap.size, 0, none⟩)]] 82) := ⟨_, rfl⟩
  rw [← hw4] at A0 ⊢
  clear hw4
  generalize w3.heap.size + 1 = fb at *
  generalize w3.heap.size = tb at *
  obtain ⟨ct, cf⟩ := A0.out.cells
  go_region_held3 (fun u => u.cell? ⟨tb, 0, none⟩ = some (.pointer (some ⟨g, 0, none⟩)) ∧ u.cell? ⟨fb, 0, none⟩ = some (.func (.func 51) #[] #[.pointer (some ⟨tb, 0, none⟩)])) (first | exact ⟨ct3, cf3⟩ | exact ⟨ct4, cf4⟩ | go_keep) (first | (go_at_call 51; refine (make_at tb 2 2 _).mono ?_; rintro e' ux ⟨vb, eb, rfl, kn⟩; have KN : Hid (New2 w4 ux vb eb 2 2) := (by first | exact kn | exact kn.drew | exact kn.drew.drew | exact kn.drew.drew.drew); obtain ⟨ct3, cf3⟩ := A0.out.cells2 KN.out; clear kn; unfold ptr at *) | (go_at_call 14; (first | refine (A0.out.one (q := 0) rfl (by decide) KN.out s1).mono ?_ | refine (A0.out.one (q := 1) rfl (by decide) KN.out s1).mono ?_ | refine (A0.out.one (q := 2) rfl (by decide) KN.out s1).mono ?_); rintro e' wc ⟨rfl, k⟩; have K3 : Hid (Awk w wc m gm g tb fb (aX [] [] [])) := k; obtain ⟨ct4, cf4⟩ := k.cells; clear k))
  clear KN ct3 cf3 A0
  have cr := K3.out.read (WalkArith.wf_i64 (by omega)) r1
  unfold ptr at cr
  go_wp2_with fail
  refine Calls.mono cr ?_
  rintro e w5 ⟨rfl, hA⟩
  have A2 : Hid (Awk w w5 m gm g tb fb (aX [(0, 0)] [] [])) := hA
  obtain ⟨ct, cf⟩ := hA.cells
  clear hA cr K3 ct4 cf4
  have cr := A2.out.two rfl (by decide) s2 s3
  rw [s3'] at cr
  unfold ptr at cr
  go_wp2_with fail
  refine Calls.mono cr ?_
  rintro e w6 ⟨rfl, hA⟩
  have A3 : Hid (Awk w w6 m gm g tb fb (aX [(0, 0)] [(0, 2)] [])) := hA
  obtain ⟨ct, cf⟩ := hA.cells
  clear hA cr A2
  have cr := A3.out.read (WalkArith.wf_i64 (by omega)) r2
  unfold ptr at cr
  go_wp2_with fail
  refine Calls.mono cr ?_
  rintro e w7 ⟨rfl, hA⟩
  have A4 : Hid (Awk w w7 m gm g tb fb (aX [(0, 0)] [(0, 2)] [])) := hA
  obtain ⟨ct, cf⟩ := hA.cells
  clear hA cr A3
  have HC1 : Hid (∀ ux vb eb, New2 w7 ux vb eb 5 0 → ux.cell? ⟨tb, 0, none⟩ = some (.pointer (some ⟨g, 0, none⟩)) ∧ ux.cell? ⟨fb, 0, none⟩ = some (.func (.func 51) #[] #[.pointer (some ⟨tb, 0, none⟩)])) := fun ux vb eb hn => A4.out.cells2 hn
  have HC2 : Hid (∀ ux vb eb uy vb2 eb2, New2 w7 ux vb eb 5 0 → New2 ux uy vb2 eb2 6 2 → uy.cell? ⟨tb, 0, none⟩ = some (.pointer (some ⟨g, 0, none⟩)) ∧ uy.cell? ⟨fb, 0, none⟩ = some (.func (.func 51) #[] #[.pointer (some ⟨tb, 0, none⟩)]) ∧ (∀ o, (uy.alloc o).cell? ⟨tb, 0, none⟩ = some (.pointer (some ⟨g, 0, none⟩))) ∧ ∀ o, (uy.alloc o).cell? ⟨fb, 0, none⟩ = some (.func (.func 51) #[] #[.pointer (some ⟨tb, 0, none⟩)])) := fun ux vb eb uy vb2 eb2 hn hn2 => A4.out.cells3 hn hn2
  have HA : Hid (∀ q ux vb eb uy vb2 eb2, New2 w7 ux vb eb 5 0 → New2 ux uy vb2 eb2 6 2 → Calls Try.prog 26 #[ptr g, .slice (some ⟨uy.heap.size, 0, none⟩) 2 2] ((uy.alloc (.cells #[.func (.func 52) #[] #[ptr tb, ptr vb, ptr eb], .func (.func 52) #[] #[ptr tb, ptr vb2, ptr eb2]] 46)).drewN q) fun r u' => r = .returned (.tuple #[.int .i64 1, .int .i64 2]) ∧ Awk w u' m gm g tb fb (aX [(0, 0)] [(0, 2)] [])) := fun q ux vb eb uy vb2 eb2 hn hn2 => by
    have := A4.out.all (cap := 2) ((Two.of hn hn2).drew q) rfl (by decide) (by decide) l1 l2 l3 l4
    rwa [l5] at this
  unfold ptr at HA
  go_upto_region 12 with fail
  go_region_held3 (fun u => u.cell? ⟨tb, 0, none⟩ = some (.pointer (some ⟨g, 0, none⟩)) ∧ u.cell? ⟨fb, 0, none⟩ = some (.func (.func 51) #[] #[.pointer (some ⟨tb, 0, none⟩)])) (first | exact ⟨ct1, cf1⟩ | exact ⟨ct2, cf2⟩ | exact ⟨ca2 _, cb2 _⟩ | exact ⟨ct4, cf4⟩ | go_keep) (first | (go_at_call 51; refine (make_at tb 6 2 _).mono ?_; rintro e' uy ⟨vb2, eb2, rfl, kn⟩; have KN2 : Hid (New2 ux uy vb2 eb2 6 2) := (by first | exact kn | exact kn.drew | exact kn.drew.drew | exact kn.drew.drew.drew); obtain ⟨ct2, cf2, ca2, cb2⟩ := HC2.out ux vb1 eb1 uy vb2 eb2 KN1.out KN2.out; clear kn; unfold ptr at *) | (go_at_call 51; refine (make_at tb 5 0 _).mono ?_; rintro e' ux ⟨vb1, eb1, rfl, kn⟩; have KN1 : Hid (New2 w7 ux vb1 eb1 5 0) := (by first | exact kn | exact kn.drew | exact kn.drew.drew | exact kn.drew.drew.drew); obtain ⟨ct1, cf1⟩ := HC1.out ux vb1 eb1 KN1.out; clear kn; unfold ptr at *) | (go_at_call 26; (first | refine (HA.out 0 ux vb1 eb1 uy vb2 eb2 KN1.out KN2.out).mono ?_ | refine (HA.out 1 ux vb1 eb1 uy vb2 eb2 KN1.out KN2.out).mono ?_ | refine (HA.out 2 ux vb1 eb1 uy vb2 eb2 KN1.out KN2.out).mono ?_ | refine (HA.out 3 ux vb1 eb1 uy vb2 eb2 KN1.out KN2.out).mono ?_); rintro e' w8 ⟨rfl, k⟩; have K3 : Hid (Awk w w8 m gm g tb fb (aX [(0, 0)] [(0, 2)] [])) := k; obtain ⟨ct4, cf4⟩ := k.cells; clear k))
  clear HC1 HC2 HA KN1 KN2 ct1 cf1 ct2 cf2 ca2 cb2 A4
  have cr := K3.out.read (WalkArith.wf_i64 (by omega)) r2
  unfold ptr at cr
  go_wp2_with fail
  refine Calls.mono cr ?_
  rintro e w9 ⟨rfl, hA⟩
  have A5 : Hid (Awk w w9 m gm g tb fb (aX [(0, 0)] [(0, 2)] [])) := hA
  obtain ⟨ct, cf⟩ := hA.cells
  clear hA cr K3 ct4 cf4
  have HC1 : Hid (∀ ux vb eb, New2 w9 ux vb eb 8 5 → ux.cell? ⟨tb, 0, none⟩ = some (.pointer (some ⟨g, 0, none⟩)) ∧ ux.cell? ⟨fb, 0, none⟩ = some (.func (.func 51) #[] #[.pointer (some ⟨tb, 0, none⟩)])) := fun ux vb eb hn => A5.out.cells2 hn
  have HC2 : Hid (∀ ux vb eb uy vb2 eb2, New2 w9 ux vb eb 8 5 → New2 ux uy vb2 eb2 7 0 → uy.cell? ⟨tb, 0, none⟩ = some (.pointer (some ⟨g, 0, none⟩)) ∧ uy.cell? ⟨fb, 0, none⟩ = some (.func (.func 51) #[] #[.pointer (some ⟨tb, 0, none⟩)]) ∧ (∀ o, (uy.alloc o).cell? ⟨tb, 0, none⟩ = some (.pointer (some ⟨g, 0, none⟩))) ∧ ∀ o, (uy.alloc o).cell? ⟨fb, 0, none⟩ = some (.func (.func 51) #[] #[.pointer (some ⟨tb, 0, none⟩)])) := fun ux vb eb uy vb2 eb2 hn hn2 => A5.out.cells3 hn hn2
  have HA : Hid (∀ q ux vb eb uy vb2 eb2, New2 w9 ux vb eb 8 5 → New2 ux uy vb2 eb2 7 0 → Calls Try.prog 18 #[ptr g, .slice (some ⟨uy.heap.size, 0, none⟩) 2 2] ((uy.alloc (.cells #[.func (.func 52) #[] #[ptr tb, ptr vb, ptr eb], .func (.func 52) #[] #[ptr tb, ptr vb2, ptr eb2]] 46)).drewN q) fun r u' => r = .returned (.tuple #[.int .i64 1, .int .i64 0]) ∧ Awk w u' m gm g tb fb (aX [(0, 0)] [(0, 7)] [])) := fun q ux vb eb uy vb2 eb2 hn hn2 => by
    have := A5.out.first (cap := 2) ((Two.of hn hn2).drew q) rfl (by decide) (by decide) k1 k2 k3
    rwa [k4] at this
  unfold ptr at HA
  go_upto_region 14 with fail
  go_region_held3 (fun u => u.cell? ⟨tb, 0, none⟩ = some (.pointer (some ⟨g, 0, none⟩)) ∧ u.cell? ⟨fb, 0, none⟩ = some (.func (.func 51) #[] #[.pointer (some ⟨tb, 0, none⟩)])) (first | exact ⟨ct1, cf1⟩ | exact ⟨ct2, cf2⟩ | exact ⟨ca2 _, cb2 _⟩ | exact ⟨ct4, cf4⟩ | go_keep) (first | (go_at_call 51; refine (make_at tb 7 0 _).mono ?_; rintro e' uy ⟨vb2, eb2, rfl, kn⟩; have KN2 : Hid (New2 ux uy vb2 eb2 7 0) := (by first | exact kn | exact kn.drew | exact kn.drew.drew | exact kn.drew.drew.drew); obtain ⟨ct2, cf2, ca2, cb2⟩ := HC2.out ux vb1 eb1 uy vb2 eb2 KN1.out KN2.out; clear kn; unfold ptr at *) | (go_at_call 51; refine (make_at tb 8 5 _).mono ?_; rintro e' ux ⟨vb1, eb1, rfl, kn⟩; have KN1 : Hid (New2 w9 ux vb1 eb1 8 5) := (by first | exact kn | exact kn.drew | exact kn.drew.drew | exact kn.drew.drew.drew); obtain ⟨ct1, cf1⟩ := HC1.out ux vb1 eb1 KN1.out; clear kn; unfold ptr at *) | (go_at_call 18; (first | refine (HA.out 0 ux vb1 eb1 uy vb2 eb2 KN1.out KN2.out).mono ?_ | refine (HA.out 1 ux vb1 eb1 uy vb2 eb2 KN1.out KN2.out).mono ?_ | refine (HA.out 2 ux vb1 eb1 uy vb2 eb2 KN1.out KN2.out).mono ?_ | refine (HA.out 3 ux vb1 eb1 uy vb2 eb2 KN1.out KN2.out).mono ?_); rintro e' w10 ⟨rfl, k⟩; have K3 : Hid (Awk w w10 m gm g tb fb (aX [(0, 0)] [(0, 7)] [])) := k; obtain ⟨ct4, cf4⟩ := k.cells; clear k))
  clear HC1 HC2 HA KN1 KN2 ct1 cf1 ct2 cf2 ca2 cb2 A5
  have cr := K3.out.read (WalkArith.wf_i64 (by omega)) r3
  unfold ptr at cr
  go_wp2_with fail
  refine Calls.mono cr ?_
  rintro e w11 ⟨rfl, hA⟩
  have A6 : Hid (Awk w w11 m gm g tb fb (aX [(0, 0)] [(0, 7)] [])) := hA
  obtain ⟨ct, cf⟩ := hA.cells
  clear hA cr K3 ct4 cf4
  go_wp2_with fail
  go_ret
  exact ⟨rfl, A6.out.bel⟩
end Go.Proofs.Ytbpbclmlkdnfbaa.T
