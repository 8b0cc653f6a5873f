/-
  A disk, two copies of it and what it held: what each call leaves.
-/
import Derived.Test.YtagnmmapnpcijaaMadeWalk
namespace Go.Proofs.Ytagnmmapnpcijaa
open Go.RowKit

def Tri (w0 w : World) (top g gx gy gi ci : Nat) (D Dx Dy : DS) (im : List UInt8) : Prop :=
  ∃ F Fx Fy : Nat → Prop, IsDisk w g D F ∧ IsDisk w gx Dx Fx ∧ IsDisk w gy Dy Fy ∧ RowB w gi ci im ∧
    (∀ i, F i ∨ Fx i ∨ Fy i → w0.heap.size ≤ i ∧ i < top ∧ i ≠ gi) ∧ (∀ i, F i → ¬ Fx i ∧ ¬ Fy i) ∧ (∀ i, Fx i → ¬ Fy i) ∧ Below w0.heap.size w0 w

theorem Tri.bel {w0 w : World} {top g gx gy gi ci : Nat} {D Dx Dy : DS} {im : List UInt8} (h : Tri w0 w top g gx gy gi ci D Dx Dy im) : Below w0.heap.size w0 w := by
  obtain ⟨_, _, _, _, _, _, _, _, _, _, h⟩ := h
  exact h
theorem Tri.row {w0 w : World} {top g gx gy gi ci : Nat} {D Dx Dy : DS} {im : List UInt8} (h : Tri w0 w top g gx gy gi ci D Dx Dy im) : RowB w gi ci im := by
  obtain ⟨_, _, _, _, _, _, h, _⟩ := h
  exact h
theorem Tri.below {w0 w w' : World} {top g gx gy gi ci : Nat} {D Dx Dy : DS} {im : List UInt8} (h : Tri w0 w top g gx gy gi ci D Dx Dy im) (b : Below w.heap.size w w') : Tri w0 w' top g gx gy gi ci D Dx Dy im := by
  obtain ⟨F, Fx, Fy, h1, h2, h3, h4, h5, h6, h7, B⟩ := h
  exact ⟨F, Fx, Fy, h1.below b, h2.below b, h3.below b, h4.same (b.block gi h4.lt), h5, h6, h7, B.trans (b.mono B.size)⟩

theorem Tri.crashX {w0 w : World} {top g gx gy gi ci : Nat} {D Dx Dy : DS} {im : List UInt8} (h : Tri w0 w top g gx gy gi ci D Dx Dy im) (ak : Option Addr) (nk ck : Nat) (ks : List Bool) (t : Int) (m : Nat) (M : Int) (hM : M = (m : Int)) (hm : m < 256) (hks : ks.length = nk) (hnk : nk ≤ 9223372036854775807) (hr : RdBl w ak ks) (hk : ∀ ad, ak = some ad → 0 < nk → ad.block < w0.heap.size ∨ top ≤ ad.block) :
    Calls Try.prog 12 #[.pointer (some ⟨gx, 0, none⟩), .slice ak nk ck, .int .i64 t, .int .u8 M] w fun e w' => e = .returned (.int .i64 0) ∧ Tri w0 w' top g gx gy gi ci D (Dx.crash ks t m) Dy im := by
  subst hM
  obtain ⟨F, Fx, Fy, h1, h2, h3, h4, h5, h6, h7, B⟩ := h
  refine (crash_at h2 ak nk ck ks t m hm hks hnk hr (fun ad ha h0 hf => by
    have := h5 _ (.inr (.inl hf))
    rcases hk ad ha h0 with q | q <;> omega)).mono ?_
  rintro e w' ⟨rfl, d, u⟩
  exact ⟨rfl, F, Fx, Fy, h1.upd u (fun i hi => (h6 i hi).1), d, h3.upd u (fun i hi hx => h7 i hx hi), h4.same (u.block gi h4.lt (fun hf => (h5 _ (.inr (.inl hf))).2.2 rfl)), h5, h6, h7, B.trans (u.below (fun i hi => (h5 i (.inr (.inl hi))).1) B.size)⟩
theorem Tri.crashY {w0 w : World} {top g gx gy gi ci : Nat} {D Dx Dy : DS} {im : List UInt8} (h : Tri w0 w top g gx gy gi ci D Dx Dy im) (ak : Option Addr) (nk ck : Nat) (ks : List Bool) (t : Int) (m : Nat) (M : Int) (hM : M = (m : Int)) (hm : m < 256) (hks : ks.length = nk) (hnk : nk ≤ 9223372036854775807) (hr : RdBl w ak ks) (hk : ∀ ad, ak = some ad → 0 < nk → ad.block < w0.heap.size ∨ top ≤ ad.block) :
    Calls Try.prog 12 #[.pointer (some ⟨gy, 0, none⟩), .slice ak nk ck, .int .i64 t, .int .u8 M] w fun e w' => e = .returned (.int .i64 0) ∧ Tri w0 w' top g gx gy gi ci D Dx (Dy.crash ks t m) im := by
  subst hM
  obtain ⟨F, Fx, Fy, h1, h2, h3, h4, h5, h6, h7, B⟩ := h
  refine (crash_at h3 ak nk ck ks t m hm hks hnk hr (fun ad ha h0 hf => by
    have := h5 _ (.inr (.inr hf))
    rcases hk ad ha h0 with q | q <;> omega)).mono ?_
  rintro e w' ⟨rfl, d, u⟩
  exact ⟨rfl, F, Fx, Fy, h1.upd u (fun i hi => (h6 i hi).2), h2.upd u (fun i hi => h7 i hi), d, h4.same (u.block gi h4.lt (fun hf => (h5 _ (.inr (.inr hf))).2.2 rfl)), h5, h6, h7, B.trans (u.below (fun i hi => (h5 i (.inr (.inr hi))).1) B.size)⟩
theorem Tri.flushY {w0 w : World} {top g gx gy gi ci : Nat} {D Dx Dy : DS} {im : List UInt8} (h : Tri w0 w top g gx gy gi ci D Dx Dy im) (hE : Dy.operE = 0) :
    Calls Try.prog 15 #[.pointer (some ⟨gy, 0, none⟩)] w fun e w' => e = .returned (.int .i64 0) ∧ Tri w0 w' top g gx gy gi ci D Dx Dy.flush im := by
  obtain ⟨F, Fx, Fy, h1, h2, h3, h4, h5, h6, h7, B⟩ := h
  have c := flush_at h3
  rw [hE] at c
  refine c.mono ?_
  rintro e w' ⟨rfl, d, u⟩
  exact ⟨rfl, F, Fx, Fy, h1.upd u (fun i hi => (h6 i hi).2), h2.upd u (fun i hi => h7 i hi), d, h4.same (u.block gi h4.lt (fun hf => (h5 _ (.inr (.inr hf))).2.2 rfl)), h5, h6, h7, B.trans (u.below (fun i hi => (h5 i (.inr (.inr hi))).1) B.size)⟩

/-- the image of one of them: it is what it held -/
theorem Tri.image {w0 w : World} {top g gx gy gi ci : Nat} {D Dx Dy : DS} {im : List UInt8} (h : Tri w0 w top g gx gy gi ci D Dx Dy im) (q : Nat) (E : DS) (hq : ∃ G, IsDisk w q E G) (hn : E.nb * 4096 = 16384) (hi : E.image = im) :
    Calls Try.prog 24 #[.pointer (some ⟨q, 0, none⟩)] w fun e w' => ∃ gj cj, e = .returned (.slice (some ⟨gj, 0, none⟩) 16384 cj) ∧ Tri w0 w' top g gx gy gi ci D Dx Dy im ∧ RowB w' gj cj im := by
  obtain ⟨G, hd⟩ := hq
  have c := image_at hd
  rw [hn, hi] at c
  refine c.mono ?_
  rintro e w' ⟨gj, cj, rfl, _, r, b⟩
  exact ⟨gj, cj, rfl, h.below b, r⟩
theorem Tri.isD {w0 w : World} {top g gx gy gi ci : Nat} {D Dx Dy : DS} {im : List UInt8} (h : Tri w0 w top g gx gy gi ci D Dx Dy im) : (∃ G, IsDisk w g D G) ∧ (∃ G, IsDisk w gx Dx G) ∧ ∃ G, IsDisk w gy Dy G := by
  obtain ⟨F, Fx, Fy, h1, h2, h3, _⟩ := h
  exact ⟨⟨F, h1⟩, ⟨Fx, h2⟩, ⟨Fy, h3⟩⟩

/-- as it begins -/
theorem Tri.start {w0 w1 w2 w3 w4 : World} {g gx gy gi ci : Nat} {D : DS} {F : Nat → Prop} (hd : IsDisk w1 g D F) (hF : ∀ i, F i → w0.heap.size ≤ i) (B : Below w0.heap.size w0 w1) (hgi : w1.heap.size ≤ gi) (r : RowB w2 gi ci D.image) (b2 : Below w1.heap.size w1 w2) (nx : NewDisk w2 w3 gx D.copy) (ny : NewDisk w3 w4 gy D.copy) : Tri w0 w4 w4.heap.size g gx gy gi ci D D.copy D.copy D.image := by
  obtain ⟨Fx, dx, hx, b3⟩ := nx
  obtain ⟨Fy, dy, hy, b4⟩ := ny
  have z1 := B.size
  have z2 := b2.size
  have z3 := b3.size
  have z4 := b4.size
  have rl := r.lt
  refine ⟨F, Fx, Fy, ((hd.below b2).below b3).below b4, dx.below b4, dy, (r.same (b3.block gi r.lt)).same (b4.block gi (by omega)), fun i hi => ?_, fun i hi => ⟨fun h => ?_, fun h => ?_⟩, fun i hi h => ?_, ((B.trans (b2.mono z1)).trans (b3.mono (by omega))).trans (b4.mono (by omega))⟩
  · rcases hi with h | h | h
    · have := hd.flt i h
      have := hF i h
      omega
    · have := hx i h
      have := dx.flt i h
      omega
    · have := hy i h
      have := dy.flt i h
      omega
  · have := hd.flt i hi
    have := hx i h
    omega
  · have := hd.flt i hi
    have := hy i h
    omega
  · have := dx.flt i hi
    have := hy i h
    omega

/-! ### a row of bools -/
def bls (ks : List Bool) : Array Value := (ks.map Value.bool).toArray
theorem info4 : (Try.prog.info? 4).map (fun i => (i.zero, i.size, i.bytes)) = some (some (.bool false), 1, 1) := by kernel_rfl
theorem madeFalse (n : Nat) : madeCells #[.bool false] n = bls (List.replicate n false) := by
  apply Array.toList_inj.1
  simp [madeCells, bls, Nat.mod_one, List.map_const']
theorem make30_run (n : Nat) (hn : n ≤ 1000000) (u : World) : (Instr.makeSlice 30 (.int .i64 (n : Int)) (.int .i64 (n : Int))).run Try.prog u = .ok (.slice (some ⟨u.heap.size, 0, none⟩) n n) (u.alloc (.cells (bls (List.replicate n false)) 4)) := by
  obtain ⟨i0, hi, hz0, hz1, hz2⟩ := info_parts info4
  have h := run_make (P := Try.prog) u 30 4 i0 (.bool false) Try.underlying30 hi hz0 .i64 .i64 (n : Int) (n : Int) (by omega) (Int.le_refl _) (by rw [hz2]; omega) (by omega)
  have e : ((n : Int)).toNat = n := by omega
  rw [e, hz1, Nat.mul_one] at h
  rw [← madeFalse]
  exact h
def trues (n k : Nat) : List Bool := List.replicate k true ++ List.replicate (n - k) false
theorem trues_length (n k : Nat) (h : k ≤ n) : (trues n k).length = n := by simp [trues]; omega
theorem trues_set (n k : Nat) (h : k < n) : (bls (trues n k)).setIfInBounds k (.bool true) = bls (trues n (k + 1)) := by
  apply Array.toList_inj.1
  simp only [bls, Array.toList_setIfInBounds, trues, List.map_append, List.map_replicate]
  rw [List.set_append_right _ _ (by simp)]
  obtain ⟨m, hm⟩ : ∃ m, n - k = m + 1 := ⟨n - k - 1, by omega⟩
  have hm' : n - (k + 1) = m := by omega
  rw [hm, hm', List.length_replicate, Nat.sub_self, List.replicate_succ, List.set_cons_zero, List.replicate_succ' (n := k)]
  simp
theorem bls_cell {w : World} {g : Nat} {ks : List Bool} (h : Box w g (bls ks) 4) (j : Nat) (hj : j < ks.length) : w.cell? ⟨g, j, none⟩ = some (.bool ks[j]) := by
  rw [h.cell j]
  simp [bls, List.getElem?_eq_getElem hj]
theorem bls_rd {w : World} {g : Nat} {ks : List Bool} (h : Box w g (bls ks) 4) : RdBl w (some ⟨g, 0, none⟩) ks := fun _ => ⟨g, 0, rfl, fun j hj => by rw [Nat.zero_add]; exact bls_cell h j hj⟩
theorem trues_keeps (n k : Nat) (h : k < n) : keeps (trues n n) k = true := by
  have : trues n n = List.replicate n true := by simp [trues]
  rw [this]
  simp [keeps, h]
end Go.Proofs.Ytagnmmapnpcijaa
