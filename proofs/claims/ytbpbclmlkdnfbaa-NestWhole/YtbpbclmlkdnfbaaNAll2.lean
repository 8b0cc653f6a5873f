/-
  All, whole.
-/
import Derived.Test.YtbpbclmlkdnfbaaNAll
namespace Go.Proofs.Ytbpbclmlkdnfbaa.T
open Go.RowKit Go.Proofs.Ytbpbclmlkdnfbaa.C
section
variable {w0 u : World} {m gm g : Nat} {S : M} {x : TX} {G V : Nat → Prop}
theorem enter54 : ∀ args w, (callFunc 54 args).run Try.prog w = .ok (.enter 54 args) w := enters_of Try.func54 (by kernel_rfl) rfl
def al3 (u : World) (g : Nat) (v : Value) : World := ((u.alloc (.cells #[.pointer (some ⟨g, 0, none⟩)] 42)).alloc (.cells #[v] 59)).alloc (.cells #[.int .i64 0] 3)
theorem al3_facts (u : World) (g : Nat) (v : Value) : (Box (al3 u g v) u.heap.size #[ptr g] 42 ∧ Box (al3 u g v) (u.heap.size + 1) #[v] 59 ∧ Box (al3 u g v) (u.heap.size + 1 + 1) #[.int .i64 0] 3) ∧ Below u.heap.size u (al3 u g v) ∧ (al3 u g v).heap.size = u.heap.size + 3 := by
  have s1 : (u.alloc (.cells #[.pointer (some ⟨g, 0, none⟩)] 42)).heap.size = u.heap.size + 1 := by simp
  have s2 : ((u.alloc (.cells #[.pointer (some ⟨g, 0, none⟩)] 42)).alloc (.cells #[v] 59)).heap.size = u.heap.size + 1 + 1 := by simp
  refine ⟨⟨?_, ?_, ?_⟩, ?_, ?_⟩
  · exact ((Box.new u _ 42).alloc _).alloc _
  · have := (Box.new (u.alloc (.cells #[.pointer (some ⟨g, 0, none⟩)] 42)) #[v] 59).alloc (.cells #[.int .i64 0] 3)
    rw [s1] at this
    exact this
  · have := Box.new ((u.alloc (.cells #[.pointer (some ⟨g, 0, none⟩)] 42)).alloc (.cells #[v] 59)) #[.int .i64 0] 3
    rw [s2] at this
    exact this
  · exact (((Below.refl u.heap.size u).alloc (Nat.le_refl _) _).alloc (by simp) _).alloc (by simp; omega) _
  · simp [al3]
set_option maxHeartbeats 2000000 in
set_option maxRecDepth 20000 in
theorem all_at {a : Option Addr} {n cap : Nat} {b : Nat → Value} (h : Hg w0 u m gm S [(g, x)] G) (hs : x.st = 1) (hd : x.S.M.length < 8) (hn2 : n ≤ 1000) (hrow : ∀ i, i < n → ∃ bb cs, a = some ⟨bb, 0, none⟩ ∧ Box u bb cs 46 ∧ cs[i]? = some (b i)) (hbb : ∀ bb, a = some ⟨bb, 0, none⟩ → bb < u.heap.size ∧ ¬ (G bb ∨ V bb)) (hV : ∀ k, V k → k < u.heap.size) (P0 : Nat → Prop) (hP0 : ∀ y, P0 y → y < u.heap.size ∧ ¬ G y) (I : Nat → World → M → TX → Prop) (D : Nat → Int → World → M → TX → Prop)
    (stab : ∀ k u' nb y S x, u.heap.size ≤ nb → I k u' S x → I k (u'.setCell ⟨nb, 0, none⟩ y) S x) (hI : ∀ u1, Upd G u u1 → I 0 u1 S x.open1) (hE : ∀ P : Nat → Prop, (∀ y, P0 y → P y) → Each w0 m gm g P V b n I D) :
    Calls Try.prog 26 #[ptr g, .slice a n cap] u fun r u' => ∃ (k : Nat) (e : Int) (S2 : M) (x2 : TX) (u2 : World), r = .returned (.tuple #[.int .i64 (k : Int), .int .i64 (x2.shutE (x.S.M.length + 1) e)]) ∧ ToG w0 u m gm S2 [(g, x2.shut (x.S.M.length + 1) e)] G V u' ∧ (∀ y, y < u.heap.size → ¬ G y → u'.heap[y]? = u2.heap[y]?) ∧ (k < n ∧ e ≠ 0 ∧ D k e u2 S2 x2 ∨ k = n ∧ e = 0 ∧ I n u2 S2 x2) := by
  have hmf : ∀ (fn : Fn) (first cap : Array Value) (w : World), (Instr.makeFunc fn first cap).run Try.prog w = .ok (.func fn first cap) w := fun _ _ _ _ => rfl
  obtain ⟨⟨b1, b2, b3⟩, hb3, s3⟩ := al3_facts u g (.slice a n cap)
  obtain ⟨ua, hua⟩ : ∃ ua, ua = al3 u g (.slice a n cap) := ⟨_, rfl⟩
  have HUA : Hid (ua = al3 u g (.slice a n cap)) := hua
  rw [← hua] at b1 b2 b3 hb3 s3
  have hA : AllAt ua a n cap (u.heap.size + 1) u.heap.size (u.heap.size + 1 + 1) g b 0 := ⟨fun i hi => by obtain ⟨bb, cs, e, c, d⟩ := hrow i hi; exact ⟨bb, cs, e, c.below hb3 c.lt, d⟩, b2, b1, b3⟩
  have h0 : w0.heap.size ≤ u.heap.size := h.mm.hB
  have hU3 : Upd G u ua := ⟨hb3.size, fun k hk _ => hb3.block k hk⟩
  have hbody : Body w0 ua m gm g S x.open1 G (fun y => V y ∨ y = u.heap.size + 1 + 1) 54 #[ptr (u.heap.size + 1), ptr u.heap.size, ptr (u.heap.size + 1 + 1)] (fun e S2 x2 u2 => ∃ k : Nat, Box u2 (u.heap.size + 1 + 1) #[.int .i64 (k : Int)] 3 ∧ (k < n ∧ e ≠ 0 ∧ D k e u2 S2 x2 ∨ k = n ∧ e = 0 ∧ I n u2 S2 x2)) := fun u1 G1 hu1 g1 g2 hg => by
    have hnG : ∀ y, u.heap.size ≤ y → ¬ G y := fun y hy hg => by have := h.lt hg; omega
    have hA1 : AllAt u1 a n cap (u.heap.size + 1) u.heap.size (u.heap.size + 1 + 1) g b 0 := hA.upd hu1 (fun bb e hb => (hbb bb e).2 (.inl hb)) (hnG _ (by omega)) (hnG _ (by omega)) (hnG _ (by omega))
    have hs1 := hu1.1
    have hnV : ∀ y, u.heap.size ≤ y → ¬ V y := fun y hy hv => by have := hV y hv; omega
    let P : Nat → Prop := fun y => (u.heap.size ≤ y ∧ y < u.heap.size + 3) ∨ a = some ⟨y, 0, none⟩ ∨ P0 y
    refine (allB_at (V := V) hg hn2 hA1 P (fun y hy hp => ?_) (fun y hp => ?_) (fun bb e => .inr (.inl e)) (.inl (by omega)) (.inl (by omega)) (.inl (by omega)) (fun bb e hv => (hbb bb e).2 (.inr hv)) (hnV _ (by omega)) (hnV _ (by omega)) (hnV _ (by omega)) (by omega) I D (fun k u' y S x => stab k u' _ y S x (by omega)) (hI u1 (hU3.trans hu1 (fun y hy => .inl hy))) (hE P (fun y hy => .inr (.inr hy)))).mono ?_
    · rcases g2 y hy with hy | hy
      · rcases hp with hp | hp | hp
        · exact hnG y hp.1 hy
        · exact (hbb y hp).2 (.inl hy)
        · exact (hP0 y hp).2 hy
      · rcases hp with hp | hp | hp
        · omega
        · have := (hbb y hp).1; omega
        · have := (hP0 y hp).1; omega
    · rcases hp with hp | hp | hp
      · omega
      · have := (hbb y hp).1; omega
      · have := (hP0 y hp).1; omega
    · rintro r u2 ⟨k, e, S2, x2, rfl, t, bk, hf⟩
      exact ⟨e, S2, x2, rfl, t, k, bk, hf⟩
  have cs := scope_at (V := fun y => V y ∨ y = u.heap.size + 1 + 1) (h.below hb3) hs hd (fun k hk => hk.elim (fun hk => by have := hV k hk; omega) (fun hk => by omega)) 54 _ enter54 _ hbody
  have c1 := b1.cell 0
  simp only [List.getElem?_toArray, List.getElem?_cons_zero] at c1
  have HK : Hid (∀ r u', Scoped w0 ua m gm g x G (fun y => V y ∨ y = u.heap.size + 1 + 1) (fun e S2 x2 u2 => ∃ k : Nat, Box u2 (u.heap.size + 1 + 1) #[.int .i64 (k : Int)] 3 ∧ (k < n ∧ e ≠ 0 ∧ D k e u2 S2 x2 ∨ k = n ∧ e = 0 ∧ I n u2 S2 x2)) r u' → ∃ (k : Nat) (e : Int) (S2 : M) (x2 : TX) (u2 : World), r = .returned (.int .i64 (x2.shutE (x.S.M.length + 1) e)) ∧ u'.cell? ⟨u.heap.size + 1 + 1, 0, none⟩ = some (.int .i64 (k : Int)) ∧ ToG w0 u m gm S2 [(g, x2.shut (x.S.M.length + 1) e)] G V u' ∧ (∀ y, y < u.heap.size → ¬ G y → u'.heap[y]? = u2.heap[y]?) ∧ (k < n ∧ e ≠ 0 ∧ D k e u2 S2 x2 ∨ k = n ∧ e = 0 ∧ I n u2 S2 x2)) := fun r u' hS => by
    obtain ⟨e, S2, x2, u2, ⟨k, bk, hf⟩, rfl, ht, hy⟩ := hS
    have hnG : ∀ y, u.heap.size ≤ y → ¬ G y := fun y hy hg => by have := h.lt hg; omega
    have bk' : Box u' (u.heap.size + 1 + 1) #[.int .i64 (k : Int)] 3 := (hy _ (by omega) (hnG _ (by omega))).trans bk
    refine ⟨k, e, S2, x2, u2, rfl, bk'.cell 0, ht.base (V := V) ⟨hb3.size, fun k hk _ => hb3.block k hk⟩ h0 (fun y hy => .inl hy) (fun y hy => hy) (fun y hy => hy.imp id (fun e => by omega)), fun y h1 h2 => hy y (by omega) h2, hf⟩
  clear h hs hd hrow hbb hV hP0 stab hI hE hA b1 b2 b3 hb3 s3 hU3 hbody h0 hua
  unfold ptr at *
  go_enter Try.func26, Try.ntmps26
  go_wp2_with fail
  unfold Hid al3 at HUA
  rw [← HUA]
  clear HUA
  refine cs.mono ?_
  intro r u' hS
  obtain ⟨k, e, S2, x2, u2, rfl, ck, hf⟩ := HK.out r u' hS
  have HF : Hid (ToG w0 u m gm S2 [(g, x2.shut (x.S.M.length + 1) e)] G V u' ∧ (∀ y, y < u.heap.size → ¬ G y → u'.heap[y]? = u2.heap[y]?) ∧ (k < n ∧ e ≠ 0 ∧ D k e u2 S2 x2 ∨ k = n ∧ e = 0 ∧ I n u2 S2 x2)) := hf
  have HE : Hid (∃ z, z = x2.shutE (x.S.M.length + 1) e) := ⟨_, rfl⟩
  clear hf hS HK cs
  obtain ⟨z, hz⟩ := HE.out
  have HZ : Hid (z = x2.shutE (x.S.M.length + 1) e) := hz
  rw [← hz]
  clear hz HE
  go_wp2_with fail
  go_ret2
  exact ⟨k, e, S2, x2, u2, by rw [← HZ.out]; rfl, HF.out⟩
end
end Go.Proofs.Ytbpbclmlkdnfbaa.T
