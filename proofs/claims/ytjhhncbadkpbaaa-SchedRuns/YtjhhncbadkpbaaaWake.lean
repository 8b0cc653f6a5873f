/-
  Wake.
-/
import Derived.Test.YtjhhncbadkpbaaaQueue
namespace Go.Proofs.Ytjhhncbadkpbaaa
open Go.RowKit

theorem To.refl {w : World} {B s : Nat} {S : SS} (h : IsS w B s S) : To w B s S w := ⟨h, Below.refl _ _, Kt.refl _ _⟩
theorem To.trans {w w1 w2 : World} {B s : Nat} {S S' : SS} (h : To w B s S w1) (k : To w1 B s S' w2) : To w B s S' w2 := ⟨k.is, h.bel.trans k.bel, h.kt.trans k.kt⟩
theorem eqlE_some (g : Nat) (w : World) : (binOp .eql 61 (.pointer (some ⟨g, 0, none⟩)) (.pointer none)).run Try.prog w = .ok (.bool false) w := by
  have h : ∀ d : Nat, (Op.equalIn (d + 1) 61 (.pointer (some ⟨g, 0, none⟩)) (.pointer none)).run Try.prog w = .ok false w := fun d => by
    simp [Op.equalIn, run_underlying pointE]
  simp only [binOp]
  simp [Op.equal, Op.maxDepth, h]
/-- a Wake of the task at a place -/
def SS.wakeI (S : SS) (i : Nat) (e : En) : SS × Bool :=
  if e.st = 2 then (S.ready i e, true) else if S.now = some i ∧ S.wk = false then ({ S with wk := true }, true) else (S, false)
set_option maxRecDepth 20000 in
set_option maxHeartbeats 1000000 in
theorem wake_in {w : World} {B s : Nat} {S : SS} (h : IsS w B s S) (i : Nat) (e : En) (he : S.E[i]? = some e) (hst : e.st < 200) (hb : S.G.length < 1000000) (hl : S.L.length < 1000000) :
    Calls Try.prog 14 #[ptr s, .int .i64 ((i + 1 : Nat) : Int)] w fun r w' => r = .returned (.bool (S.wakeI i e).2) ∧ To w B s (S.wakeI i e).1 w' := by
  have hi : i < S.G.length := by obtain ⟨vt, va, vl, h⟩ := h; rw [← h.ents.len]; exact (List.getElem?_eq_some_iff.1 he).1
  have c := find_in h i hi hb
  have hI : Hid (IsS w B s S) := h
  obtain ⟨vt, va, vl, h⟩ := h
  obtain ⟨_, _, c2, _⟩ := h.cells i hi e he
  generalize ((i + 1 : Nat) : Int) = z at *
  by_cases h2 : e.st = 2
  · have cq := queue_at hI.out i e he (by omega) hl hi
    have ew : S.wakeI i e = (S.ready i e, true) := by unfold SS.wakeI; rw [if_pos h2]
    rw [ew]
    rw [h2] at c2
    generalize S.G[i] = q at *
    clear h ew h2 he hst
    unfold ptr at *
    go_enter Try.func14, Try.ntmps14
    go_wp2_with (first | (go_at_call 27; refine c.mono ?_; rintro e w' ⟨rfl, rfl⟩) | (go_at_call 24; refine cq.mono ?_; rintro e w' ⟨rfl, hT⟩))
    go_ret
    exact ⟨rfl, hT⟩
  · have h2' : ¬ ((e.st : Int) = 2) := by omega
    have hst' : (e.st : Int) < 200 := by omega
    have c4 : w.cell? ⟨s, 4, none⟩ = some S.nv := h.rows.box.cell 4
    have c5 : w.cell? ⟨s, 5, none⟩ = some (.bool S.wk) := h.rows.box.cell 5
    have f5 := h.rows.box.frozen 5
    by_cases h4 : S.now = some i
    · have e4 : S.nv = ptr S.G[i] := by unfold SS.nv; rw [h4]; simp [hi]
      rw [e4] at c4
      have hq := eqlE S.G[i]
      cases h5 : S.wk with
      | false =>
        have ew : S.wakeI i e = ({ S with wk := true }, true) := by unfold SS.wakeI; rw [if_neg h2, if_pos ⟨h4, h5⟩]
        rw [ew]
        rw [h5] at c5
        have fin : To w B s { S with wk := true } (w.setCell ⟨s, 5, none⟩ (.bool true)) := by
          have hk : Kt (fun t => t ≠ 63) w (w.setCell ⟨s, 5, none⟩ (.bool true)) := (Kt.refl _ _).setCell h.rows.box (by simp) 5 _
          exact ⟨⟨vt, va, vl, ⟨h.rows.set 5 _ S.nv true rfl, h.ents.kt hk (by decide), h.ll, h.hn⟩⟩, (Below.refl _ _).setCell (p := ⟨s, 5, none⟩) h.rows.hs _, hk.mono (fun t ht => ht.2.1)⟩
        have HF : Hid (To w B s { S with wk := true } (w.setCell ⟨s, 5, none⟩ (.bool true))) := fin
        generalize S.G[i] = q at *
        clear h ew h2 he hst fin h4 h5 e4
        unfold ptr at *
        go_enter Try.func14, Try.ntmps14
        go_wp2_with (first | (go_at_call 27; refine c.mono ?_; rintro e w' ⟨rfl, rfl⟩))
        go_ret
        exact ⟨rfl, HF.out⟩
      | true =>
        have ew : S.wakeI i e = (S, false) := by unfold SS.wakeI; rw [if_neg h2, if_neg (by rw [h5]; simp)]
        rw [ew]
        rw [h5] at c5
        generalize S.G[i] = q at *
        clear h ew h2 he hst h4 h5 e4
        unfold ptr at *
        go_enter Try.func14, Try.ntmps14
        go_wp2_with (first | (go_at_call 27; refine c.mono ?_; rintro e w' ⟨rfl, rfl⟩))
        go_ret
        exact ⟨rfl, To.refl hI.out⟩
    · have ew : S.wakeI i e = (S, false) := by unfold SS.wakeI; rw [if_neg h2, if_neg (fun h => h4 h.1)]
      rw [ew]
      have hq : (binOp .eql 61 (ptr S.G[i]) S.nv).run Try.prog w = .ok (.bool false) w := by
        cases h5 : S.now with
        | none =>
          have e4 : S.nv = .pointer none := by unfold SS.nv; rw [h5]
          rw [e4]
          exact eqlE_some _ _
        | some k =>
          have hk := h.hn k h5
          have e4 : S.nv = ptr S.G[k] := by unfold SS.nv; rw [h5]; simp [hk]
          rw [e4]
          refine eqlE_other (h.ents.en i hi e he) (h.ents.en k hk (S.E[k]'(by rw [h.ents.len]; exact hk)) (List.getElem?_eq_getElem _)) (fun e1 => ?_)
          have := nodup_inj h.ents.nd hi hk e1
          subst this
          exact h4 h5
      have hnv : ∃ o, S.nv = .pointer o := by
        unfold SS.nv
        cases S.now with
        | none => exact ⟨_, rfl⟩
        | some k => exact ⟨_, rfl⟩
      obtain ⟨o, ho⟩ := hnv
      rw [ho] at hq c4
      generalize S.G[i] = q at *
      clear h ew h2 he hst h4 ho c5
      unfold ptr at *
      go_enter Try.func14, Try.ntmps14
      go_wp2_with (first | (go_at_call 27; refine c.mono ?_; rintro e w' ⟨rfl, rfl⟩))
      go_ret
      exact ⟨rfl, To.refl hI.out⟩
/-- a Wake of any number -/
def SS.wake (S : SS) (id : Int) : SS × Bool :=
  if id < 1 then (S, false) else match S.E[(id - 1).toNat]? with
    | none => (S, false)
    | some e => S.wakeI (id - 1).toNat e
theorem wake_at {w : World} {B s : Nat} {S : SS} (h : IsS w B s S) (id : Int) (hst : ∀ e ∈ S.E, e.st < 200) (hb : S.G.length < 1000000) (hl : S.L.length < 1000000) :
    Calls Try.prog 14 #[ptr s, .int .i64 id] w fun r w' => r = .returned (.bool (S.wake id).2) ∧ To w B s (S.wake id).1 w' := by
  have hlen : S.E.length = S.G.length := by obtain ⟨vt, va, vl, h⟩ := h; exact h.ents.len
  by_cases h1 : id < 1
  · have ew : S.wake id = (S, false) := by unfold SS.wake; rw [if_pos h1]
    rw [ew]
    refine (wake_no (find_out h id (.inl h1))).mono ?_
    rintro r w' ⟨rfl, rfl⟩
    exact ⟨rfl, To.refl h⟩
  · obtain ⟨i, rfl⟩ : ∃ i : Nat, id = ((i + 1 : Nat) : Int) := ⟨(id - 1).toNat, by omega⟩
    have e1 : (((i + 1 : Nat) : Int) - 1).toNat = i := by omega
    cases he : S.E[i]? with
    | none =>
      have ew : S.wake ((i + 1 : Nat) : Int) = (S, false) := by unfold SS.wake; rw [if_neg h1, e1, he]
      rw [ew]
      have hge : S.G.length ≤ i := by rw [← hlen]; exact List.getElem?_eq_none_iff.1 he
      refine (wake_no (find_out h _ (.inr (by omega)))).mono ?_
      rintro r w' ⟨rfl, rfl⟩
      exact ⟨rfl, To.refl h⟩
    | some e =>
      have ew : S.wake ((i + 1 : Nat) : Int) = S.wakeI i e := by unfold SS.wake; rw [if_neg h1, e1, he]
      rw [ew]
      exact wake_in h i e he (hst e (List.mem_of_getElem? he)) hb hl
end Go.Proofs.Ytjhhncbadkpbaaa
