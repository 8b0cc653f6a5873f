/-
  What is picked out of a queue.
-/
import Derived.Test.YtlbnilendcelkaaOps
namespace Go.Proofs.Ytlbnilendcelkaa
open Go.RowKit
namespace I
theorem pickW_at {w : World} {B q : Nat} {S : QS Int} {F : Nat → Prop} {vw vd : Value} (h : IsQ eI 49 33 w B q S F vw vd) (fn : Nat) (caps : Array Value) (hin : ∀ args u, (callFunc fn args).run Try.prog u = .ok (.enter fn args) u) (ans : Nat → Bool) (K : Nat → List Bx) (row : Nat → Prop)
    (hK : AllB w (K 0)) (hap : ∀ k, ∀ x ∈ K k, ¬ F x.1 ∧ x.1 < w.heap.size) (hrow : ∀ k, row k → ¬ F k ∧ k < w.heap.size)
    (hf : ∀ k (hk : k < S.wait.length) (u : World), AllB u (K k) → Calls Try.prog fn (#[eI.agg S.wait[k]] ++ caps) u fun r u' => r = .returned (.bool (ans k)) ∧ AllB u' (K (k + 1)) ∧ Chg row u u') :
    Calls Try.prog 25 #[.pointer (some ⟨q, 1, none⟩), .func (.func fn) #[] caps] w fun r w' => ∃ vo vw', r = .returned vo ∧ IsRow eI 33 w' w.heap.size vo (sel ans S.wait) ∧ IsQ eI 49 33 w' B q ⟨sel (fun k => !ans k) S.wait, S.due⟩ F vw' vd ∧ Chg (fun k => row k ∨ F k) w w' := by
  have c1 : w.cell? ⟨q, 1, none⟩ = some vw := h.box.cell 1
  have f1 : w.frozen? ⟨q, 1, none⟩ = false := h.box.frozen 1
  have hq := h.fB q h.fq
  have hrm := h.rm
  have hlen := sel_two ans S.wait
  rcases h.rw.lay with ⟨rfl, he⟩ | ⟨g, cap, rfl, hB, hl⟩
  · refine (take_nil c1 f1 (.func (.func fn) #[] caps)).mono ?_
    rintro r w' ⟨rfl, rfl⟩
    have e1 : sel ans S.wait = [] := by rw [he]; rfl
    have e2 : sel (fun k => !ans k) S.wait = S.wait := by rw [he]; rfl
    have hc : Chg F w (w.setCell ⟨q, 1, none⟩ (.slice none 0 0)) := (Chg.refl F w).setCell q 1 _ (fun _ => h.fq)
    refine ⟨.slice none 0 0, .slice none 0 0, rfl, by rw [e1]; exact IsRow.nil _ _ _ _, ?_, hc.mono (fun i _ x => .inr x)⟩
    rw [e2]
    have hb := h.box.store 1 (.slice none 0 0)
    exact ⟨h.fq, fun k hk => ⟨(h.fB k hk).1, by have := (h.fB k hk).2; simpa [World.setCell] using this⟩, by simpa using hb, by rw [he]; exact IsRow.nil _ _ _ _, h.rd.chg (S := fun k => k = q) ((Chg.refl (fun k => k = q) w).setCell q 1 _ (fun _ => rfl)) (fun b e e' => (h.fd b e).2 e'), h.fw, h.fd, h.ne, h.rm⟩
  · have hfg := h.fw g rfl
    refine (take_at (o := 1) S.wait c1 f1 hl (by omega) (fun e => hfg.2 e.symm) hq.2 fn caps hin ans K row hK (fun k x hx => ⟨fun e => (hap k x hx).1 (e ▸ hfg.1), fun e => (hap k x hx).1 (e ▸ h.fq), (hap k x hx).2⟩) (fun k hk => ⟨fun e => (hrow k hk).1 (e ▸ hfg.1), fun e => (hrow k hk).1 (e ▸ h.fq), (hrow k hk).2⟩) hf).mono ?_
    rintro r w' ⟨vo, rfl, h1, h2, h3, h4, h5⟩
    have hFS : ∀ i, F i → ¬ row i := fun i hi hr => (hrow i hr).1 hi
    have hc : Chg (fun k => row k ∨ F k) w w' := h5.mono (fun i _ e => by
      rcases e with e | e | e
      · exact .inl e
      · exact .inr (e ▸ h.fq)
      · exact .inr (e ▸ hfg.1))
    have hb := h3 _ _ h.box
    refine ⟨vo, .slice (some ⟨g, 0, none⟩) (sel (fun k => !ans k) S.wait).length cap, rfl, h1, ⟨h.fq, fun k hk => ⟨(h.fB k hk).1, Nat.lt_of_lt_of_le (h.fB k hk).2 hc.size⟩, by simpa using hb, h2.row hB, ?_, fun k e => by cases e; exact hfg, h.fd, fun k e => by cases e; exact h.ne g rfl, by simp only; omega⟩, hc⟩
    refine h.rd.chg h5 (fun b e e' => ?_)
    rcases e' with e' | e' | e'
    · exact hFS b (h.fd b e).1 e'
    · exact (h.fd b e).2 e'
    · subst e'; exact h.ne _ rfl e
theorem pickD_at {w : World} {B q : Nat} {S : QS Int} {F : Nat → Prop} {vw vd : Value} (h : IsQ eI 49 33 w B q S F vw vd) (fn : Nat) (caps : Array Value) (hin : ∀ args u, (callFunc fn args).run Try.prog u = .ok (.enter fn args) u) (ans : Nat → Bool) (K : Nat → List Bx) (row : Nat → Prop)
    (hK : AllB w (K 0)) (hap : ∀ k, ∀ x ∈ K k, ¬ F x.1 ∧ x.1 < w.heap.size) (hrow : ∀ k, row k → ¬ F k ∧ k < w.heap.size)
    (hf : ∀ k (hk : k < S.due.length) (u : World), AllB u (K k) → Calls Try.prog fn (#[eI.agg S.due[k]] ++ caps) u fun r u' => r = .returned (.bool (ans k)) ∧ AllB u' (K (k + 1)) ∧ Chg row u u') :
    Calls Try.prog 25 #[.pointer (some ⟨q, 2, none⟩), .func (.func fn) #[] caps] w fun r w' => ∃ vo vd', r = .returned vo ∧ IsRow eI 33 w' w.heap.size vo (sel ans S.due) ∧ IsQ eI 49 33 w' B q ⟨S.wait, sel (fun k => !ans k) S.due⟩ F vw vd' ∧ Chg (fun k => row k ∨ F k) w w' := by
  have c1 : w.cell? ⟨q, 2, none⟩ = some vd := h.box.cell 2
  have f1 : w.frozen? ⟨q, 2, none⟩ = false := h.box.frozen 2
  have hq := h.fB q h.fq
  have hrm := h.rm
  have hlen := sel_two ans S.due
  rcases h.rd.lay with ⟨rfl, he⟩ | ⟨g, cap, rfl, hB, hl⟩
  · refine (take_nil c1 f1 (.func (.func fn) #[] caps)).mono ?_
    rintro r w' ⟨rfl, rfl⟩
    have e1 : sel ans S.due = [] := by rw [he]; rfl
    have e2 : sel (fun k => !ans k) S.due = S.due := by rw [he]; rfl
    have hc : Chg F w (w.setCell ⟨q, 2, none⟩ (.slice none 0 0)) := (Chg.refl F w).setCell q 2 _ (fun _ => h.fq)
    refine ⟨.slice none 0 0, .slice none 0 0, rfl, by rw [e1]; exact IsRow.nil _ _ _ _, ?_, hc.mono (fun i _ x => .inr x)⟩
    rw [e2]
    have hb := h.box.store 2 (.slice none 0 0)
    exact ⟨h.fq, fun k hk => ⟨(h.fB k hk).1, by have := (h.fB k hk).2; simpa [World.setCell] using this⟩, by simpa using hb, h.rw.chg (S := fun k => k = q) ((Chg.refl (fun k => k = q) w).setCell q 2 _ (fun _ => rfl)) (fun b e e' => (h.fw b e).2 e'), by rw [he]; exact IsRow.nil _ _ _ _, h.fw, h.fd, h.ne, h.rm⟩
  · have hfg := h.fd g rfl
    refine (take_at (o := 2) S.due c1 f1 hl (by omega) (fun e => hfg.2 e.symm) hq.2 fn caps hin ans K row hK (fun k x hx => ⟨fun e => (hap k x hx).1 (e ▸ hfg.1), fun e => (hap k x hx).1 (e ▸ h.fq), (hap k x hx).2⟩) (fun k hk => ⟨fun e => (hrow k hk).1 (e ▸ hfg.1), fun e => (hrow k hk).1 (e ▸ h.fq), (hrow k hk).2⟩) hf).mono ?_
    rintro r w' ⟨vo, rfl, h1, h2, h3, h4, h5⟩
    have hFS : ∀ i, F i → ¬ row i := fun i hi hr => (hrow i hr).1 hi
    have hc : Chg (fun k => row k ∨ F k) w w' := h5.mono (fun i _ e => by
      rcases e with e | e | e
      · exact .inl e
      · exact .inr (e ▸ h.fq)
      · exact .inr (e ▸ hfg.1))
    have hb := h3 _ _ h.box
    refine ⟨vo, .slice (some ⟨g, 0, none⟩) (sel (fun k => !ans k) S.due).length cap, rfl, h1, ⟨h.fq, fun k hk => ⟨(h.fB k hk).1, Nat.lt_of_lt_of_le (h.fB k hk).2 hc.size⟩, by simpa using hb, ?_, h2.row hB, h.fw, fun k e => by cases e; exact hfg, fun k e e' => by cases e'; exact h.ne g e rfl, by simp only; omega⟩, hc⟩
    refine h.rw.chg h5 (fun b e e' => ?_)
    rcases e' with e' | e' | e'
    · exact hFS b (h.fw b e).1 e'
    · exact (h.fw b e).2 e'
    · subst e'; exact h.ne _ e rfl
end I
namespace S
theorem pickW_at {w : World} {B q : Nat} {S : QS ByteArray} {F : Nat → Prop} {vw vd : Value} (h : IsQ eS 70 67 w B q S F vw vd) (fn : Nat) (caps : Array Value) (hin : ∀ args u, (callFunc fn args).run Try.prog u = .ok (.enter fn args) u) (ans : Nat → Bool) (K : Nat → List Bx) (row : Nat → Prop)
    (hK : AllB w (K 0)) (hap : ∀ k, ∀ x ∈ K k, ¬ F x.1 ∧ x.1 < w.heap.size) (hrow : ∀ k, row k → ¬ F k ∧ k < w.heap.size)
    (hf : ∀ k (hk : k < S.wait.length) (u : World), AllB u (K k) → Calls Try.prog fn (#[eS.agg S.wait[k]] ++ caps) u fun r u' => r = .returned (.bool (ans k)) ∧ AllB u' (K (k + 1)) ∧ Chg row u u') :
    Calls Try.prog 40 #[.pointer (some ⟨q, 1, none⟩), .func (.func fn) #[] caps] w fun r w' => ∃ vo vw', r = .returned vo ∧ IsRow eS 67 w' w.heap.size vo (sel ans S.wait) ∧ IsQ eS 70 67 w' B q ⟨sel (fun k => !ans k) S.wait, S.due⟩ F vw' vd ∧ Chg (fun k => row k ∨ F k) w w' := by
  have c1 : w.cell? ⟨q, 1, none⟩ = some vw := h.box.cell 1
  have f1 : w.frozen? ⟨q, 1, none⟩ = false := h.box.frozen 1
  have hq := h.fB q h.fq
  have hrm := h.rm
  have hlen := sel_two ans S.wait
  rcases h.rw.lay with ⟨rfl, he⟩ | ⟨g, cap, rfl, hB, hl⟩
  · refine (take_nil c1 f1 (.func (.func fn) #[] caps)).mono ?_
    rintro r w' ⟨rfl, rfl⟩
    have e1 : sel ans S.wait = [] := by rw [he]; rfl
    have e2 : sel (fun k => !ans k) S.wait = S.wait := by rw [he]; rfl
    have hc : Chg F w (w.setCell ⟨q, 1, none⟩ (.slice none 0 0)) := (Chg.refl F w).setCell q 1 _ (fun _ => h.fq)
    refine ⟨.slice none 0 0, .slice none 0 0, rfl, by rw [e1]; exact IsRow.nil _ _ _ _, ?_, hc.mono (fun i _ x => .inr x)⟩
    rw [e2]
    have hb := h.box.store 1 (.slice none 0 0)
    exact ⟨h.fq, fun k hk => ⟨(h.fB k hk).1, by have := (h.fB k hk).2; simpa [World.setCell] using this⟩, by simpa using hb, by rw [he]; exact IsRow.nil _ _ _ _, h.rd.chg (S := fun k => k = q) ((Chg.refl (fun k => k = q) w).setCell q 1 _ (fun _ => rfl)) (fun b e e' => (h.fd b e).2 e'), h.fw, h.fd, h.ne, h.rm⟩
  · have hfg := h.fw g rfl
    refine (take_at (o := 1) S.wait c1 f1 hl (by omega) (fun e => hfg.2 e.symm) hq.2 fn caps hin ans K row hK (fun k x hx => ⟨fun e => (hap k x hx).1 (e ▸ hfg.1), fun e => (hap k x hx).1 (e ▸ h.fq), (hap k x hx).2⟩) (fun k hk => ⟨fun e => (hrow k hk).1 (e ▸ hfg.1), fun e => (hrow k hk).1 (e ▸ h.fq), (hrow k hk).2⟩) hf).mono ?_
    rintro r w' ⟨vo, rfl, h1, h2, h3, h4, h5⟩
    have hFS : ∀ i, F i → ¬ row i := fun i hi hr => (hrow i hr).1 hi
    have hc : Chg (fun k => row k ∨ F k) w w' := h5.mono (fun i _ e => by
      rcases e with e | e | e
      · exact .inl e
      · exact .inr (e ▸ h.fq)
      · exact .inr (e ▸ hfg.1))
    have hb := h3 _ _ h.box
    refine ⟨vo, .slice (some ⟨g, 0, none⟩) (sel (fun k => !ans k) S.wait).length cap, rfl, h1, ⟨h.fq, fun k hk => ⟨(h.fB k hk).1, Nat.lt_of_lt_of_le (h.fB k hk).2 hc.size⟩, by simpa using hb, h2.row hB, ?_, fun k e => by cases e; exact hfg, h.fd, fun k e => by cases e; exact h.ne g rfl, by simp only; omega⟩, hc⟩
    refine h.rd.chg h5 (fun b e e' => ?_)
    rcases e' with e' | e' | e'
    · exact hFS b (h.fd b e).1 e'
    · exact (h.fd b e).2 e'
    · subst e'; exact h.ne _ rfl e
theorem pickD_at {w : World} {B q : Nat} {S : QS ByteArray} {F : Nat → Prop} {vw vd : Value} (h : IsQ eS 70 67 w B q S F vw vd) (fn : Nat) (caps : Array Value) (hin : ∀ args u, (callFunc fn args).run Try.prog u = .ok (.enter fn args) u) (ans : Nat → Bool) (K : Nat → List Bx) (row : Nat → Prop)
    (hK : AllB w (K 0)) (hap : ∀ k, ∀ x ∈ K k, ¬ F x.1 ∧ x.1 < w.heap.size) (hrow : ∀ k, row k → ¬ F k ∧ k < w.heap.size)
    (hf : ∀ k (hk : k < S.due.length) (u : World), AllB u (K k) → Calls Try.prog fn (#[eS.agg S.due[k]] ++ caps) u fun r u' => r = .returned (.bool (ans k)) ∧ AllB u' (K (k + 1)) ∧ Chg row u u') :
    Calls Try.prog 40 #[.pointer (some ⟨q, 2, none⟩), .func (.func fn) #[] caps] w fun r w' => ∃ vo vd', r = .returned vo ∧ IsRow eS 67 w' w.heap.size vo (sel ans S.due) ∧ IsQ eS 70 67 w' B q ⟨S.wait, sel (fun k => !ans k) S.due⟩ F vw vd' ∧ Chg (fun k => row k ∨ F k) w w' := by
  have c1 : w.cell? ⟨q, 2, none⟩ = some vd := h.box.cell 2
  have f1 : w.frozen? ⟨q, 2, none⟩ = false := h.box.frozen 2
  have hq := h.fB q h.fq
  have hrm := h.rm
  have hlen := sel_two ans S.due
  rcases h.rd.lay with ⟨rfl, he⟩ | ⟨g, cap, rfl, hB, hl⟩
  · refine (take_nil c1 f1 (.func (.func fn) #[] caps)).mono ?_
    rintro r w' ⟨rfl, rfl⟩
    have e1 : sel ans S.due = [] := by rw [he]; rfl
    have e2 : sel (fun k => !ans k) S.due = S.due := by rw [he]; rfl
    have hc : Chg F w (w.setCell ⟨q, 2, none⟩ (.slice none 0 0)) := (Chg.refl F w).setCell q 2 _ (fun _ => h.fq)
    refine ⟨.slice none 0 0, .slice none 0 0, rfl, by rw [e1]; exact IsRow.nil _ _ _ _, ?_, hc.mono (fun i _ x => .inr x)⟩
    rw [e2]
    have hb := h.box.store 2 (.slice none 0 0)
    exact ⟨h.fq, fun k hk => ⟨(h.fB k hk).1, by have := (h.fB k hk).2; simpa [World.setCell] using this⟩, by simpa using hb, h.rw.chg (S := fun k => k = q) ((Chg.refl (fun k => k = q) w).setCell q 2 _ (fun _ => rfl)) (fun b e e' => (h.fw b e).2 e'), by rw [he]; exact IsRow.nil _ _ _ _, h.fw, h.fd, h.ne, h.rm⟩
  · have hfg := h.fd g rfl
    refine (take_at (o := 2) S.due c1 f1 hl (by omega) (fun e => hfg.2 e.symm) hq.2 fn caps hin ans K row hK (fun k x hx => ⟨fun e => (hap k x hx).1 (e ▸ hfg.1), fun e => (hap k x hx).1 (e ▸ h.fq), (hap k x hx).2⟩) (fun k hk => ⟨fun e => (hrow k hk).1 (e ▸ hfg.1), fun e => (hrow k hk).1 (e ▸ h.fq), (hrow k hk).2⟩) hf).mono ?_
    rintro r w' ⟨vo, rfl, h1, h2, h3, h4, h5⟩
    have hFS : ∀ i, F i → ¬ row i := fun i hi hr => (hrow i hr).1 hi
    have hc : Chg (fun k => row k ∨ F k) w w' := h5.mono (fun i _ e => by
      rcases e with e | e | e
      · exact .inl e
      · exact .inr (e ▸ h.fq)
      · exact .inr (e ▸ hfg.1))
    have hb := h3 _ _ h.box
    refine ⟨vo, .slice (some ⟨g, 0, none⟩) (sel (fun k => !ans k) S.due).length cap, rfl, h1, ⟨h.fq, fun k hk => ⟨(h.fB k hk).1, Nat.lt_of_lt_of_le (h.fB k hk).2 hc.size⟩, by simpa using hb, ?_, h2.row hB, h.fw, fun k e => by cases e; exact hfg, fun k e e' => by cases e'; exact h.ne g e rfl, by simp only; omega⟩, hc⟩
    refine h.rw.chg h5 (fun b e e' => ?_)
    rcases e' with e' | e' | e'
    · exact hFS b (h.fw b e).1 e'
    · exact (h.fw b e).2 e'
    · subst e'; exact h.ne _ e rfl
end S
end Go.Proofs.Ytlbnilendcelkaa
