/-
  What stays true of a sched's plain state.
-/
import Derived.Test.YtjhhncbadkpbaaaTOver
namespace Go.Proofs.Ytjhhncbadkpbaaa
open Go.RowKit

structure Good (S : SS) : Prop where
  st : ∀ e ∈ S.E, e.st = 1 ∨ e.st = 2 ∨ e.st = 3
  ln : ∀ i ∈ S.L, ∃ e, S.E[i]? = some e ∧ e.st = 1
  nd : S.L.Nodup
  nw : ∀ i, S.now = some i → i ∉ S.L ∧ ∃ e, S.E[i]? = some e ∧ e.st = 1
theorem Good.zero : Good SS0 := ⟨by simp [SS0], by simp [SS0], by simp [SS0], by simp [SS0]⟩
theorem Good.lt {S : SS} (h : Good S) : ∀ e ∈ S.E, e.st < 200 := fun e he => by rcases h.st e he with h | h | h <;> omega
theorem set_mem {E : List En} {i : Nat} {e' x : En} (h : x ∈ E.set i e') : x ∈ E ∨ x = e' := List.mem_or_eq_of_mem_set h
theorem Good.ready {S : SS} (h : Good S) {j : Nat} {e : En} (he : S.E[j]? = some e) (h2 : e.st = 2) : Good (S.ready j e) := by
  have hj := (List.getElem?_eq_some_iff.1 he).1
  have hno : j ∉ S.L := fun hm => by
    obtain ⟨e', h1, h3⟩ := h.ln j hm
    rw [he] at h1
    cases h1
    omega
  refine ⟨fun x hx => ?_, fun i hi => ?_, ?_, fun i hi => ?_⟩
  · rcases set_mem hx with h1 | rfl
    · exact h.st x h1
    · exact .inl rfl
  · by_cases e1 : i = j
    · subst e1
      exact ⟨_, List.getElem?_set_self hj, rfl⟩
    · show ∃ e_1, (S.E.set j _)[i]? = some e_1 ∧ _
      rw [List.getElem?_set_ne (Ne.symm e1)]
      rcases List.mem_append.1 hi with h1 | h1
      · exact h.ln i h1
      · simp at h1; exact absurd h1 e1
  · show (S.L ++ [j]).Nodup
    rw [List.nodup_append]
    refine ⟨h.nd, by simp, ?_⟩
    intro a ha b hb e1
    simp at hb
    subst hb e1
    exact hno ha
  · obtain ⟨h1, e', h3, h4⟩ := h.nw i hi
    have e1 : i ≠ j := fun e1 => by subst e1; rw [he] at h3; cases h3; omega
    refine ⟨fun hm => ?_, e', ?_, h4⟩
    · rcases List.mem_append.1 hm with h5 | h5
      · exact h1 h5
      · simp at h5; exact e1 h5
    · show (S.E.set j _)[i]? = _
      rw [List.getElem?_set_ne (Ne.symm e1)]
      exact h3
theorem wake_cases (S : SS) (id : Int) : S.wake id = (S, false) ∨ (∃ j e, S.E[j]? = some e ∧ e.st = 2 ∧ id = ((j + 1 : Nat) : Int) ∧ S.wake id = (S.ready j e, true)) ∨ (∃ j, S.now = some j ∧ S.wk = false ∧ id = ((j + 1 : Nat) : Int) ∧ S.wake id = ({ S with wk := true }, true)) := by
  unfold SS.wake
  split
  · exact .inl rfl
  · split
    · exact .inl rfl
    · rename_i h1 e he
      have e1 : id = (((id - 1).toNat + 1 : Nat) : Int) := by omega
      unfold SS.wakeI
      split
      · rename_i h2
        exact .inr (.inl ⟨_, e, he, h2, e1, rfl⟩)
      · split
        · rename_i h3
          exact .inr (.inr ⟨_, h3.1, h3.2, e1, rfl⟩)
        · exact .inl rfl
theorem did_cases (S : SS) (d : Do3) : S.did d = S ∨ (∃ j e, S.E[j]? = some e ∧ e.st = 2 ∧ S.did d = S.ready j e) ∨ S.did d = { S with wk := true } := by
  unfold SS.did
  split
  · exact .inl rfl
  · rcases wake_cases S d.wake with h | ⟨j, e, h1, h2, _, h3⟩ | ⟨j, _, _, _, h3⟩
    · rw [h]; exact .inl rfl
    · rw [h3]; exact .inr (.inl ⟨j, e, h1, h2, rfl⟩)
    · rw [h3]; exact .inr (.inr rfl)
theorem Good.did {S : SS} (h : Good S) (d : Do3) : Good (S.did d) := by
  rcases did_cases S d with e | ⟨j, e, h1, h2, h3⟩ | e
  · rw [e]; exact h
  · rw [h3]; exact h.ready h1 h2
  · rw [e]; exact ⟨h.st, h.ln, h.nd, h.nw⟩
/-- what a Wake within a step leaves alone -/
theorem did_facts {S : SS} {i : Nat} {e : En} (d : Do3) (he : S.E[i]? = some e) (h1 : e.st = 1) : (S.did d).G = S.G ∧ (S.did d).now = S.now ∧ (S.did d).E[i]? = some e ∧ (S.did d).L.length ≤ S.L.length + 1 ∧ (S.did d).E.length = S.E.length := by
  rcases did_cases S d with q | ⟨j, e', h3, h2, h4⟩ | q
  · rw [q]; exact ⟨rfl, rfl, he, by omega, rfl⟩
  · rw [h4]
    refine ⟨rfl, rfl, ?_, by simp [SS.ready], by simp [SS.ready]⟩
    show (S.E.set j _)[i]? = _
    have e1 : j ≠ i := fun e1 => by subst e1; rw [he] at h3; cases h3; omega
    rw [List.getElem?_set_ne e1]
    exact he
  · rw [q]; exact ⟨rfl, rfl, he, by simp, rfl⟩
theorem did_ent {S : SS} {j : Nat} {e : En} (d : Do3) (he : S.E[j]? = some e) : ∃ e', (S.did d).E[j]? = some e' ∧ e'.task = e.task ∧ e'.n = e.n ∧ (e'.st = e.st ∨ (e.st = 2 ∧ e'.st = 1)) := by
  rcases did_cases S d with q | ⟨k, e', h3, h2, h4⟩ | q
  · rw [q]; exact ⟨e, he, rfl, rfl, .inl rfl⟩
  · rw [h4]
    by_cases e1 : k = j
    · subst e1
      rw [he] at h3
      cases h3
      exact ⟨_, List.getElem?_set_self (List.getElem?_eq_some_iff.1 he).1, rfl, rfl, .inr ⟨h2, rfl⟩⟩
    · refine ⟨e, ?_, rfl, rfl, .inl rfl⟩
      show (S.E.set k _)[j]? = _
      rw [List.getElem?_set_ne e1]
      exact he
  · rw [q]; exact ⟨e, he, rfl, rfl, .inl rfl⟩
theorem Good.begin {S : SS} (h : Good S) {k i : Nat} (hk : S.L[k]? = some i) : Good { S with L := S.L.eraseIdx k, now := some i, wk := false } := by
  have hkl := (List.getElem?_eq_some_iff.1 hk).1
  have hmem := List.mem_of_getElem? hk
  have hno : i ∉ S.L.eraseIdx k := by
    have h1 := List.getElem_of_getElem? hk
    obtain ⟨_, h2⟩ := h1
    intro hm
    rw [List.eraseIdx_eq_take_drop_succ] at hm
    have hp := List.pairwise_iff_getElem.1 h.nd
    rcases List.mem_append.1 hm with h3 | h3
    · obtain ⟨a, ha, e⟩ := List.getElem_of_mem h3
      simp at ha e
      exact hp a k (by omega) hkl (by omega) (by rw [e, h2])
    · obtain ⟨a, ha, e⟩ := List.getElem_of_mem h3
      simp at ha e
      exact hp k (k + 1 + a) hkl (by omega) (by omega) (by rw [e, h2])
  exact ⟨h.st, fun j hj => h.ln j (List.mem_of_mem_eraseIdx hj), h.nd.sublist (List.eraseIdx_sublist ..), fun j hj => by
    injection hj with hj
    subst hj
    exact ⟨hno, h.ln _ hmem⟩⟩
theorem Good.fin {S : SS} (h : Good S) {i : Nat} {e : En} (hn : S.now = some i) (he : S.E[i]? = some e) (st : Nat) : Good (S.fin i e st) := by
  obtain ⟨hno, _⟩ := h.nw i hn
  have hi := (List.getElem?_eq_some_iff.1 he).1
  have hE : ∀ (x : En), (∀ e' ∈ S.E.set i x, e'.st = 1 ∨ e'.st = 2 ∨ e'.st = 3) ↔ (x.st = 1 ∨ x.st = 2 ∨ x.st = 3) := fun x => ⟨fun h1 => h1 x (List.mem_of_getElem? (List.getElem?_set_self hi)), fun h1 e' he' => by
    rcases set_mem he' with h2 | rfl
    · exact h.st e' h2
    · exact h1⟩
  have hL : ∀ (x : En) j, j ∈ S.L → ∃ e', (S.E.set i x)[j]? = some e' ∧ e'.st = 1 := fun x j hj => by
    have e1 : j ≠ i := fun e1 => hno (e1 ▸ hj)
    rw [List.getElem?_set_ne (Ne.symm e1)]
    exact h.ln j hj
  unfold SS.fin
  split
  · refine ⟨(hE _).2 (.inl rfl), fun j hj => ?_, ?_, fun j hj => by cases hj⟩
    · rcases List.mem_append.1 hj with h1 | h1
      · exact hL _ j h1
      · simp at h1
        subst h1
        exact ⟨_, List.getElem?_set_self hi, rfl⟩
    · show (S.L ++ [i]).Nodup
      rw [List.nodup_append]
      refine ⟨h.nd, by simp, ?_⟩
      intro a ha b hb e1
      simp at hb
      subst hb e1
      exact hno ha
  · split
    · exact ⟨(hE _).2 (.inr (.inl rfl)), hL _, h.nd, fun j hj => by cases hj⟩
    · exact ⟨(hE _).2 (.inr (.inr rfl)), hL _, h.nd, fun j hj => by cases hj⟩
theorem fin_ent {S : SS} {i j : Nat} {e ej : En} (st : Nat) (he : S.E[i]? = some e) (hj : S.E[j]? = some ej) : ∃ e', (S.fin i e st).E[j]? = some e' ∧ e'.n = ej.n + (if j = i then 1 else 0) ∧ (e'.st ≠ 3 → e'.task = ej.task) ∧ (j ≠ i → e' = ej) := by
  have hi := (List.getElem?_eq_some_iff.1 he).1
  by_cases e1 : j = i
  · subst e1
    rw [he] at hj
    cases hj
    unfold SS.fin
    rw [if_pos rfl]
    split
    · exact ⟨_, List.getElem?_set_self hi, rfl, fun _ => rfl, fun h => absurd rfl h⟩
    · split
      · exact ⟨_, List.getElem?_set_self hi, rfl, fun _ => rfl, fun h => absurd rfl h⟩
      · exact ⟨_, List.getElem?_set_self hi, rfl, fun h => absurd rfl h, fun h => absurd rfl h⟩
  · rw [if_neg e1]
    have : (S.fin i e st).E[j]? = S.E[j]? := by
      unfold SS.fin
      split
      · exact List.getElem?_set_ne (Ne.symm e1)
      · split
        · exact List.getElem?_set_ne (Ne.symm e1)
        · exact List.getElem?_set_ne (Ne.symm e1)
    exact ⟨ej, this.trans hj, rfl, fun _ => rfl, fun _ => rfl⟩
theorem Good.add {S : SS} (h : Good S) (hlen : S.E.length = S.G.length) (hll : ∀ i ∈ S.L, i < S.G.length) (g : Nat) (v : Value) : Good (S.add g v) := by
  have old : ∀ (i : Nat) (e : En), S.E[i]? = some e → (S.E ++ [(⟨v, 1, 0⟩ : En)])[i]? = some e := fun i e he => by
    rw [List.getElem?_append_left (List.getElem?_eq_some_iff.1 he).1]; exact he
  refine ⟨fun x hx => ?_, fun i hi => ?_, ?_, fun i hi => ?_⟩
  · rcases List.mem_append.1 hx with h1 | h1
    · exact h.st x h1
    · simp at h1; subst h1; exact .inl rfl
  · rcases List.mem_append.1 hi with h1 | h1
    · obtain ⟨e, h2, h3⟩ := h.ln i h1
      exact ⟨e, old i e h2, h3⟩
    · simp at h1
      subst h1
      refine ⟨⟨v, 1, 0⟩, ?_, rfl⟩
      show (S.E ++ [_])[S.G.length]? = _
      rw [← hlen]
      simp
  · show (S.L ++ [S.G.length]).Nodup
    rw [List.nodup_append]
    refine ⟨h.nd, by simp, ?_⟩
    intro a ha b hb e1
    simp at hb
    have := hll a ha
    omega
  · obtain ⟨h1, e, h2, h3⟩ := h.nw i hi
    refine ⟨fun hm => ?_, e, old i e h2, h3⟩
    rcases List.mem_append.1 hm with h4 | h4
    · exact h1 h4
    · simp at h4
      have := (List.getElem?_eq_some_iff.1 h2).1
      omega
end Go.Proofs.Ytjhhncbadkpbaaa
