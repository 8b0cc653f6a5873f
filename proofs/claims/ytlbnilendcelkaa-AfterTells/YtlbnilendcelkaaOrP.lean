/-
  AfterOrder, plainly.
-/
import Derived.Test.YtlbnilendcelkaaNon
namespace Go.Proofs.Ytlbnilendcelkaa
open Go.RowKit
/-! ### AfterOrder, plainly -/
def acts (l : List (En Int)) : List Int := l.map fun e => e.act
theorem mrg_app {F : Type} (k : F → Int) (L R : List F) (h : ∀ x ∈ L, ∀ y ∈ R, k x ≤ k y) : mrg k L R = L ++ R := by
  induction L with
  | nil => rw [nil_mrg]; rfl
  | cons x L ih =>
    cases R with
    | nil => rw [mrg_nil]; simp
    | cons y R =>
      rw [mrg, if_pos (h x (by simp) y (by simp)), ih (fun a ha b hb => h a (by simp [ha]) b hb)]
      rfl
/-- what is true between the calls: W: what each waits with, T: what is wanted, G: what was got -/
structure Ord (S : QS Int) (W : Int → List Int) (T G : List Int) (ver : Int) (n : Nat) : Prop where
  mine : ∀ o, 1 ≤ o → o ≤ 4 → acts (S.mine o) = W o
  want : T = G ++ acts S.due
  le : ∀ e ∈ S.due, 1 ≤ e.ver ∧ e.ver ≤ ver
  v0 : 0 ≤ ver ∧ ver ≤ n
  tot : G.length + S.due.length + S.wait.length ≤ n
  ws : ∀ o, (W o).length ≤ n
def upW (W : Int → List Int) (o : Int) (l : List Int) : Int → List Int := fun i => if i = o then l else W i
theorem Ord.few {S : QS Int} {W : Int → List Int} {T G : List Int} {ver : Int} {n : Nat} (h : Ord S W T G ver n) : S.wait.length + S.due.length ≤ n := by have := h.tot; omega
theorem Ord.tl {S : QS Int} {W : Int → List Int} {T G : List Int} {ver : Int} {n : Nat} (h : Ord S W T G ver n) : T.length ≤ n := by
  have := h.tot
  have e1 : T.length = G.length + S.due.length := by rw [h.want]; simp [acts]
  omega
theorem Ord.gl {S : QS Int} {W : Int → List Int} {T G : List Int} {ver : Int} {n : Nat} (h : Ord S W T G ver n) : G.length ≤ n := by have := h.tot; omega
theorem Ord.start : Ord ⟨[], []⟩ (fun _ => []) [] [] 0 0 := ⟨fun _ _ _ => rfl, rfl, fun e he => by simp at he, by omega, by simp, by simp⟩
theorem mine_app (S : QS Int) (o o' a : Int) : (⟨S.wait ++ [⟨0, o, a⟩], S.due⟩ : QS Int).mine o' = S.mine o' ++ if o = o' then [⟨0, o, a⟩] else [] := by
  unfold QS.mine
  rw [List.filter_append]
  by_cases h : o = o' <;> simp [h]
theorem Ord.later {S : QS Int} {W : Int → List Int} {T G : List Int} {ver : Int} {n : Nat} (h : Ord S W T G ver n) (hn : n < 1024) (o : Int) (ho : 1 ≤ o) (a : Int) : S.later o a = (0, ⟨S.wait ++ [⟨0, o, a⟩], S.due⟩) ∧ Ord ⟨S.wait ++ [⟨0, o, a⟩], S.due⟩ (upW W o (W o ++ [a])) T G ver (n + 1) := by
  have hf := h.few
  refine ⟨by unfold QS.later; rw [if_neg (by omega), if_neg (by omega)], fun o' h1 h2 => ?_, h.want, h.le, ⟨h.v0.1, by have := h.v0.2; omega⟩, by have := h.tot; simp; omega, fun o' => ?_⟩
  · rw [mine_app]
    by_cases e : o = o'
    · subst e; simp [upW, acts, ← h.mine o h1 h2]
    · rw [if_neg e, List.append_nil, h.mine o' h1 h2]; simp [upW, Ne.symm e]
  · have := h.ws o'; have := h.ws o
    unfold upW; split
    · simp; omega
    · omega
theorem mine_not (l : List (En Int)) (o o' : Int) : (l.filter (fun e => !decide (e.own = o))).filter (fun e => decide (e.own = o')) = if o' = o then [] else l.filter (fun e => decide (e.own = o')) := by
  induction l with
  | nil => simp
  | cons x l ih =>
    by_cases h1 : x.own = o <;> by_cases h2 : x.own = o' <;> by_cases h3 : o' = o <;> simp_all
theorem Ord.commit {S : QS Int} {W : Int → List Int} {T G : List Int} {ver : Int} {n : Nat} (h : Ord S W T G ver n) (o : Int) (h1 : 1 ≤ o) (h4 : o ≤ 4) : ∃ S', S.commit o (ver + 1) = (((W o).length : Int), 0, S') ∧ Ord S' (upW W o []) (T ++ W o) G (ver + 1) (n + 1) := by
  have hv := h.v0
  have hm := h.mine o h1 h4
  have hml : (S.mine o).length = (W o).length := by rw [← hm]; simp [acts]
  have hsp : (S.mine o).length + (S.wait.filter (fun e => !decide (e.own = o))).length = S.wait.length := by
    unfold QS.mine
    have : ∀ l : List (En Int), (l.filter (fun e => decide (e.own = o))).length + (l.filter (fun e => !decide (e.own = o))).length = l.length := fun l => by
      induction l with
      | nil => rfl
      | cons x l ih => by_cases hx : x.own = o <;> simp [hx] <;> omega
    exact this _
  have hmr : mrg En.ver S.due ((S.mine o).map fun e => { e with ver := ver + 1 }) = S.due ++ (S.mine o).map fun e => { e with ver := ver + 1 } := mrg_app _ _ _ (fun x hx y hy => by
    obtain ⟨z, _, rfl⟩ := List.mem_map.1 hy
    have := (h.le x hx).2
    show x.ver ≤ ver + 1
    omega)
  refine ⟨⟨S.wait.filter (fun e => !decide (e.own = o)), S.due ++ (S.mine o).map fun e => { e with ver := ver + 1 }⟩, ?_, fun o' g1 g2 => ?_, ?_, fun e he => ?_, by omega, ?_, fun o' => ?_⟩
  · unfold QS.commit; rw [if_neg (by omega), hmr, hml]
  · show acts ((S.wait.filter (fun e => !decide (e.own = o))).filter (fun e => decide (e.own = o'))) = _
    rw [mine_not]
    unfold upW
    by_cases e : o' = o
    · rw [if_pos e, if_pos e]; rfl
    · rw [if_neg e, if_neg e]; exact h.mine o' g1 g2
  · rw [h.want, ← hm]; simp [acts, Function.comp_def]
  · rcases List.mem_append.1 he with he | he
    · have := h.le e he; omega
    · obtain ⟨z, _, rfl⟩ := List.mem_map.1 he
      show 1 ≤ ver + 1 ∧ ver + 1 ≤ ver + 1
      omega
  · have := h.tot; simp only [List.length_append, List.length_map]; omega
  · have := h.ws o'
    unfold upW; split
    · simp
    · omega
theorem bks_zero (S : QS Int) (o : Int) : sel (bks S.wait o 0) S.wait = S.mine o ∧ sel (fun k => !bks S.wait o 0 k) S.wait = S.wait.filter (fun e => !decide (e.own = o)) := by
  have hb : ∀ k (hk : k < S.wait.length), bks S.wait o 0 k = decide (S.wait[k].own = o) := fun k hk => by
    unfold bks
    simp only [List.getElem?_eq_getElem hk]
    by_cases h : S.wait[k].own = o
    · have : 0 < ((S.wait.take (k + 1)).filter fun e => decide (e.own = o)).length := by
        rw [List.take_succ_eq_append_getElem hk, List.filter_append]
        simp [h]
      have h2 : ((0 : Int) < (((S.wait.take (k + 1)).filter fun e => decide (e.own = o)).length : Int)) := by exact_mod_cast this
      simp only [h, decide_true, Bool.true_and, decide_eq_true_eq]
      simpa using this
    · simp [h]
  exact ⟨sel_filter _ _ _ hb, sel_filter (fun e : En Int => !decide (e.own = o)) _ _ (fun k hk => by rw [hb k hk])⟩
theorem Ord.drop {S : QS Int} {W : Int → List Int} {T G : List Int} {ver : Int} {n : Nat} (h : Ord S W T G ver n) (o : Int) (h1 : 1 ≤ o) (h4 : o ≤ 4) : ∃ S', S.back o 0 = (((W o).length : Int), S') ∧ Ord S' (upW W o []) T G ver n := by
  have hm := h.mine o h1 h4
  have hml : (S.mine o).length = (W o).length := by rw [← hm]; simp [acts]
  obtain ⟨b1, b2⟩ := bks_zero S o
  refine ⟨⟨S.wait.filter (fun e => !decide (e.own = o)), S.due⟩, ?_, fun o' g1 g2 => ?_, h.want, h.le, h.v0, ?_, fun o' => ?_⟩
  · unfold QS.back; rw [if_neg (by omega), b1, b2, hml]
  · show acts ((S.wait.filter (fun e => !decide (e.own = o))).filter (fun e => decide (e.own = o'))) = _
    rw [mine_not]
    unfold upW
    by_cases e : o' = o
    · rw [if_pos e, if_pos e]; rfl
    · rw [if_neg e, if_neg e]; exact h.mine o' g1 g2
  · have := h.tot; have := List.length_filter_le (fun e : En Int => !decide (e.own = o)) S.wait; simp only; omega
  · have := h.ws o'
    unfold upW; split
    · simp
    · omega
theorem Ord.take {S : QS Int} {W : Int → List Int} {T G : List Int} {ver : Int} {n : Nat} (h : Ord S W T G ver n) : S.take ver = (S.due, ⟨S.wait, []⟩) ∧ Ord ⟨S.wait, []⟩ W T (G ++ acts S.due) ver n := by
  refine ⟨?_, h.mine, by rw [h.want]; simp [acts], fun e he => by simp at he, h.v0, by have := h.tot; simp [acts]; omega, h.ws⟩
  unfold QS.take
  rw [List.filter_eq_self.2 (fun e he => by simpa using (h.le e he).2), List.filter_eq_nil_iff.2 (fun e he => by simpa using (h.le e he).2)]
end Go.Proofs.Ytlbnilendcelkaa
