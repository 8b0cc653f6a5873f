/-
  The calls of a disk, for scripts: each leaves a disk that lies apart.
-/
import Derived.Test.YtagnmmapnpcijaaAwake
namespace Go.Proofs.Ytagnmmapnpcijaa
open Go.RowKit

/-- a disk of one's own, made since w0 -/
def At (w0 w : World) (g : Nat) (D : DS) : Prop := ∃ F : Nat → Prop, IsDisk w g D F ∧ (∀ i, F i → w0.heap.size ≤ i) ∧ Below w0.heap.size w0 w
/-- and a block's bytes beside it -/
def At2 (w0 w : World) (g : Nat) (D : DS) (ga : Nat) (x : List UInt8) : Prop := ∃ F : Nat → Prop, IsDisk w g D F ∧ (∀ i, F i → w0.heap.size ≤ i) ∧ Below w0.heap.size w0 w ∧ ¬ F ga ∧ Own w ga x

theorem At.bel {w0 w : World} {g : Nat} {D : DS} (h : At w0 w g D) : Below w0.heap.size w0 w := by obtain ⟨_, _, _, h⟩ := h; exact h
theorem At.below {w0 w w' : World} {g : Nat} {D : DS} (h : At w0 w g D) (b : Below w.heap.size w w') : At w0 w' g D := by
  obtain ⟨F, hd, hF, B⟩ := h
  exact ⟨F, hd.below b, hF, B.trans (b.mono B.size)⟩

theorem At.filled {w0 w : World} {g : Nat} {D : DS} (h : At w0 w g D) (c : UInt8) (C : Int) (x : List UInt8) (hC : C = (c.toNat : Int)) (hx : x = fill c) :
    Calls Try.prog 11 #[.int .u8 C] w fun e w' => ∃ ga, e = .returned (.slice (some ⟨ga, 0, none⟩) 4096 4096) ∧ At2 w0 w' g D ga x := by
  obtain ⟨F, hd, hF, B⟩ := h
  rw [hx]
  refine (filled_at c C w hC).mono ?_
  rintro e w' ⟨ga, rfl, hga, o, b⟩
  exact ⟨ga, rfl, F, hd.below b, hF, B.trans (b.mono B.size), fun h => by have := hd.flt _ h; omega, o⟩

theorem At.mixed {w0 w : World} {g : Nat} {D : DS} (h : At w0 w g D) (a b : UInt8) (m : Nat) (A' B' M' : Int) (x : List UInt8) (hA : A' = (a.toNat : Int)) (hB : B' = (b.toNat : Int)) (hM : M' = (m : Int)) (hm : m < 256) (hx : x = mixK a b m 4096) :
    Calls Try.prog 16 #[.int .u8 A', .int .u8 B', .int .i64 M'] w fun e w' => ∃ ga, e = .returned (.slice (some ⟨ga, 0, none⟩) 4096 4096) ∧ At2 w0 w' g D ga x := by
  obtain ⟨F, hd, hF, B⟩ := h
  rw [hx]
  refine (mixed_at a b m A' B' M' w hA hB hM hm).mono ?_
  rintro e w' ⟨ga, rfl, hga, o, b⟩
  exact ⟨ga, rfl, F, hd.below b, hF, B.trans (b.mono B.size), fun h => by have := hd.flt _ h; omega, o⟩

theorem At2.write {w0 w : World} {g : Nat} {D : DS} {ga : Nat} {x : List UInt8} (h : At2 w0 w g D ga x) (n : Int) (er : Nat) (ER : Int) (D' : DS) (hx : x.length = 4096) (hlim : writeF D) (hE : D.writeE n x = er) (hER : ER = (er : Int)) (hD : D.write n x = D') :
    Calls Try.prog 10 #[.pointer (some ⟨g, 0, none⟩), .int .i64 n, .slice (some ⟨ga, 0, none⟩) 4096 4096] w fun e w' => e = .returned (.int .i64 ER) ∧ At w0 w' g D' := by
  obtain ⟨F, hd, hF, B, hn, o⟩ := h
  subst hD hER hE
  refine (write_at hd n (some ⟨ga, 0, none⟩) 4096 4096 x hx hlim o.rd (fun ad h => by cases h; exact hn)).mono ?_
  rintro e w' ⟨rfl, ⟨F', hd', hF'⟩, u⟩
  have hz := B.size
  exact ⟨rfl, F', hd', fun i hi => by rcases hF' i hi with h | h; exact hF i h; omega, B.trans (u.below hF hz)⟩

theorem At.writeNil {w0 w : World} {g : Nat} {D : DS} (h : At w0 w g D) (n : Int) (er : Nat) (ER : Int) (D' : DS) (hlim : writeF D) (hE : D.writeE n [] = er) (hER : ER = (er : Int)) (hD : D.write n [] = D') :
    Calls Try.prog 10 #[.pointer (some ⟨g, 0, none⟩), .int .i64 n, .slice none 0 0] w fun e w' => e = .returned (.int .i64 ER) ∧ At w0 w' g D' := by
  obtain ⟨F, hd, hF, B⟩ := h
  subst hD hER hE
  refine (write_at hd n none 0 0 [] rfl hlim (Rd.nil _ _) (fun ad h => by cases h)).mono ?_
  rintro e w' ⟨rfl, ⟨F', hd', hF'⟩, u⟩
  have hz := B.size
  exact ⟨rfl, F', hd', fun i hi => by rcases hF' i hi with h | h; exact hF i h; omega, B.trans (u.below hF hz)⟩

theorem At.flush {w0 w : World} {g : Nat} {D : DS} (h : At w0 w g D) (er : Nat) (ER : Int) (D' : DS) (hE : D.operE = er) (hER : ER = (er : Int)) (hD : D.flush = D') :
    Calls Try.prog 15 #[.pointer (some ⟨g, 0, none⟩)] w fun e w' => e = .returned (.int .i64 ER) ∧ At w0 w' g D' := by
  obtain ⟨F, hd, hF, B⟩ := h
  subst hD hER hE
  refine (flush_at hd).mono ?_
  rintro e w' ⟨rfl, hd', u⟩
  exact ⟨rfl, F, hd', hF, B.trans (u.below hF B.size)⟩

theorem At.arm {w0 w : World} {g : Nat} {D : DS} (h : At w0 w g D) (n : Int) (hn : n ≤ 9223372036854775807) (er : Nat) (ER : Int) (D' : DS) (hE : armE n = er) (hER : ER = (er : Int)) (hD : D.armed n = D') :
    Calls Try.prog 18 #[.pointer (some ⟨g, 0, none⟩), .int .i64 n] w fun e w' => e = .returned (.int .i64 ER) ∧ At w0 w' g D' := by
  obtain ⟨F, hd, hF, B⟩ := h
  subst hD hER hE
  refine (arm_at hd n hn).mono ?_
  rintro e w' ⟨rfl, hd', u⟩
  exact ⟨rfl, F, hd', hF, B.trans (u.below hF B.size)⟩

theorem At.fail {w0 w : World} {g : Nat} {D : DS} (h : At w0 w g D) (n : Int) (hn : n ≤ 9223372036854775807) (er : Nat) (ER : Int) (D' : DS) (hE : armE n = er) (hER : ER = (er : Int)) (hD : D.failing n = D') :
    Calls Try.prog 20 #[.pointer (some ⟨g, 0, none⟩), .int .i64 n] w fun e w' => e = .returned (.int .i64 ER) ∧ At w0 w' g D' := by
  obtain ⟨F, hd, hF, B⟩ := h
  subst hD hER hE
  refine (fail_at hd n hn).mono ?_
  rintro e w' ⟨rfl, hd', u⟩
  exact ⟨rfl, F, hd', hF, B.trans (u.below hF B.size)⟩

theorem At.crashNil {w0 w : World} {g : Nat} {D : DS} (h : At w0 w g D) (t : Int) (m : Nat) (M : Int) (hM : M = (m : Int)) (hm : m < 256) (D' : DS) (hD : D.crash [] t m = D') :
    Calls Try.prog 12 #[.pointer (some ⟨g, 0, none⟩), .slice none 0 0, .int .i64 t, .int .u8 M] w fun e w' => e = .returned (.int .i64 0) ∧ At w0 w' g D' := by
  obtain ⟨F, hd, hF, B⟩ := h
  subst hD hM
  refine (crash_at hd none 0 0 [] t m hm rfl (by omega) (RdBl.nil _ _) (fun ad h => by cases h)).mono ?_
  rintro e w' ⟨rfl, hd', u⟩
  exact ⟨rfl, F, hd', hF, B.trans (u.below hF B.size)⟩

/-- what is kept, in a new row -/
theorem At.crash {w0 w : World} {g : Nat} {D : DS} (h : At w0 w g D) (ks : List Bool) (n : Nat) (hn : ks.length = n) (hn9 : n ≤ 1000) (cs : Array Value) (hcs : cs = (ks.map Value.bool).toArray) (t : Int) (m : Nat) (M : Int) (hM : M = (m : Int)) (hm : m < 256) (D' : DS) (hD : D.crash ks t m = D') :
    Calls Try.prog 12 #[.pointer (some ⟨g, 0, none⟩), .slice (some ⟨w.heap.size, 0, none⟩) n n, .int .i64 t, .int .u8 M] (w.alloc (.cells cs 4)) fun e w' => e = .returned (.int .i64 0) ∧ At w0 w' g D' := by
  obtain ⟨F, hd, hF, B⟩ := h
  subst hD hM hcs hn
  have bA := (Below.refl w.heap.size w).alloc (Nat.le_refl _) (.cells (ks.map Value.bool).toArray 4)
  have xb := Box.new w (ks.map Value.bool).toArray 4
  have nk : ¬ F w.heap.size := fun h => by have := hd.flt _ h; omega
  have hrk : RdBl (w.alloc (.cells (ks.map Value.bool).toArray 4)) (some ⟨w.heap.size, 0, none⟩) ks := fun _ => ⟨_, 0, rfl, fun j hj => by
    rw [Nat.zero_add, xb.cell j]
    simp [List.getElem?_eq_getElem hj]⟩
  have B' := B.trans (bA.mono B.size)
  refine (crash_at (hd.below bA) (some ⟨w.heap.size, 0, none⟩) ks.length ks.length ks t m hm rfl (by omega) hrk (fun ad h _ => by cases h; exact nk)).mono ?_
  rintro e w' ⟨rfl, hd', u⟩
  exact ⟨rfl, F, hd', hF, B'.trans (u.below hF B'.size)⟩

theorem At2.has {w0 w : World} {g : Nat} {D : DS} {ga : Nat} {x : List UInt8} (h : At2 w0 w g D ga x) (nn : Nat) (N : Int) (hN : N = (nn : Int)) (hn : nn < D.nb) (hg : D.gone = false) (hlim : D.uf.length ≤ 1000000) (hx : x.length = 4096) (hs : D.stand nn = x) :
    Calls Try.prog 13 #[.pointer (some ⟨g, 0, none⟩), .int .i64 N, .slice (some ⟨ga, 0, none⟩) 4096 4096] w fun e w' => e = .returned (.bool true) ∧ At w0 w' g D := by
  obtain ⟨F, hd, hF, B, _, o⟩ := h
  refine (lawHas_at hd nn N hN hn hg hlim (some ⟨ga, 0, none⟩) 4096 4096 x hx o.rd).mono ?_
  rintro e w' ⟨rfl, b⟩
  exact ⟨by rw [hs, beq_self_eq_true], F, hd.below b, hF, B.trans (b.mono B.size)⟩

theorem At.writes {w0 w : World} {g : Nat} {D : DS} (h : At w0 w g D) (n : Nat) (N : Int) (hN : N = (n : Int)) (hD : D.n = n) :
    Calls Try.prog 14 #[.pointer (some ⟨g, 0, none⟩)] w fun e w' => e = .returned (.int .i64 N) ∧ w = w' := by
  obtain ⟨F, hd, _⟩ := h
  subst hN hD
  exact writes_at hd
theorem At.size {w0 w : World} {g : Nat} {D : DS} (h : At w0 w g D) (n : Nat) (N : Int) (hN : N = (n : Int)) (hD : D.nb = n) :
    Calls Try.prog 22 #[.pointer (some ⟨g, 0, none⟩)] w fun e w' => e = .returned (.int .i64 N) ∧ w = w' := by
  obtain ⟨F, hd, _⟩ := h
  subst hN hD
  exact size_of hd
theorem At.copy {w0 w : World} {g : Nat} {D : DS} (h : At w0 w g D) (hlim : D.uf.length ≤ 1000000) :
    Calls Try.prog 17 #[.pointer (some ⟨g, 0, none⟩)] w fun e w' => ∃ gc, e = .returned (.pointer (some ⟨gc, 0, none⟩)) ∧ At w0 w' gc D.copy ∧ At w0 w' g D := by
  have h0 := h
  obtain ⟨F, hd, hF, B⟩ := h
  refine (copy_at hd hlim).mono ?_
  rintro e w' ⟨gc, rfl, Fc, hc, hFc, b⟩
  exact ⟨gc, rfl, ⟨Fc, hc, fun i hi => Nat.le_trans B.size (hFc i hi), B.trans (b.mono B.size)⟩, h0.below b⟩
theorem At.readBad {w0 w : World} {g : Nat} {D : DS} (h : At w0 w g D) (n : Int) (er : Nat) (ER : Int) (hE : D.readE n = er) (hER : ER = (er : Int)) (h0 : er ≠ 0) :
    Calls Try.prog 19 #[.pointer (some ⟨g, 0, none⟩), .int .i64 n] w fun e w' => e = .returned (.tuple #[.slice none 0 0, .int .i64 ER]) ∧ w = w' := by
  obtain ⟨F, hd, _⟩ := h
  subst hER hE
  exact read_bad hd n h0
theorem At.pending0 {w0 w : World} {g : Nat} {D : DS} (h : At w0 w g D) (h0 : D.uf = []) :
    Calls Try.prog 23 #[.pointer (some ⟨g, 0, none⟩)] w fun e w' => ∃ a c, e = .returned (.slice a 0 c) ∧ At w0 w' g D := by
  have h1 := h
  obtain ⟨F, hd, _⟩ := h
  refine (pending_at hd (by rw [h0]; simp)).mono ?_
  rintro e w' ⟨v, rfl, o, b⟩
  rw [h0] at o
  rcases o.2 with ⟨rfl, _⟩ | ⟨gp, cp, curp, rfl, _⟩
  · exact ⟨none, 0, rfl, h1.below b⟩
  · exact ⟨_, cp, rfl, h1.below b⟩
theorem At.image {w0 w : World} {g : Nat} {D : DS} (h : At w0 w g D) (n : Nat) (hn : D.nb * 4096 = n) :
    Calls Try.prog 24 #[.pointer (some ⟨g, 0, none⟩)] w fun e w' => ∃ gi ci, e = .returned (.slice (some ⟨gi, 0, none⟩) n ci) ∧ At w0 w' g D := by
  have h1 := h
  obtain ⟨F, hd, _⟩ := h
  subst hn
  refine (image_at hd).mono ?_
  rintro e w' ⟨gi, ci, rfl, _, _, b⟩
  exact ⟨gi, ci, rfl, h1.below b⟩
end Go.Proofs.Ytagnmmapnpcijaa
