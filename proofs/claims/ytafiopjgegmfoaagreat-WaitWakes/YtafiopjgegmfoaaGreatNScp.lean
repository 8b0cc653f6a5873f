/-
  Scope.
-/
import Derived.Test.YtafiopjgegmfoaaGreatNIns
namespace Go.Proofs.YtafiopjgegmfoaaGreat.T
open Go.RowKit Go.Proofs.YtafiopjgegmfoaaGreat.C
theorem neNil (f : Nat) (caps : Array Value) (w : World) : (binOp .eql 38 (.func (.func f) #[] caps) .nilFunc).run Tryz.prog w = .ok (.bool false) w := by
  have ha := Tryz.underlying38
  have h : ∀ d : Nat, (Op.equalIn (d + 1) 38 (.func (.func f) #[] caps) .nilFunc).run Tryz.prog w = .ok false w := fun d => by
    simp [Op.equalIn, run_underlying ha]
  simp only [binOp]
  simp [Op.equal, Op.maxDepth, h]
theorem eqNil (w : World) : (binOp .eql 38 .nilFunc .nilFunc).run Tryz.prog w = .ok (.bool true) w := by
  have ha := Tryz.underlying38
  have h : ∀ d : Nat, (Op.equalIn (d + 1) 38 .nilFunc .nilFunc).run Tryz.prog w = .ok true w := fun d => by
    simp [Op.equalIn, run_underlying ha]
  simp only [binOp]
  simp [Op.equal, Op.maxDepth, h]
section
variable {w0 u : World} {m gm g : Nat} {S : M} {x : TX} {G V : Nat → Prop}
/-- one more scope is open -/
def TX.open1 (x : TX) : TX := { x with S := { x.S with M := x.S.M ++ [x.S.W] } }
theorem TX.open1_len (x : TX) : x.open1.S.M.length = x.S.M.length + 1 := by simp [TX.open1]
theorem TX.mark_ok (x : TX) (hs : x.st = 1) (hd : x.S.M.length < 8) : x.mark = (0, x.open1) := by
  unfold TX.mark
  rw [if_neg (by omega)]
  unfold SS.mark
  rw [if_neg (by omega)]
  rfl
/-- what is asked of a body in a scope: f with caps, from any world behind u -/
def Body (w0 u : World) (m gm g : Nat) (S : M) (x : TX) (G V : Nat → Prop) (f : Nat) (caps : Array Value) (Q : Int → M → TX → World → Prop) : Prop :=
  ∀ u1 G1, Upd G u u1 → (∀ k, G k → G1 k) → (∀ k, G1 k → G k ∨ u.heap.size ≤ k) → Hg w0 u1 m gm S [(g, x)] G1 → Calls Tryz.prog f caps u1 fun r u2 => ∃ e S2 x2, r = .returned (.int .i64 e) ∧ ToG w0 u1 m gm S2 [(g, x2)] G1 V u2 ∧ Q e S2 x2 u2
/-- what a scope leaves -/
def Scoped (w0 u : World) (m gm g : Nat) (x : TX) (G V : Nat → Prop) (Q : Int → M → TX → World → Prop) (r : Ending) (u' : World) : Prop :=
  ∃ e S2 x2 u2, Q e S2 x2 u2 ∧ r = .returned (.int .i64 (x2.shutE (x.S.M.length + 1) e)) ∧ ToG w0 u m gm S2 [(g, x2.shut (x.S.M.length + 1) e)] G V u' ∧ ∀ k, k < u.heap.size → ¬ G k → u'.heap[k]? = u2.heap[k]?
set_option maxHeartbeats 1000000 in
set_option maxRecDepth 20000 in
theorem scope_at (h : Hg w0 u m gm S [(g, x)] G) (hs : x.st = 1) (hd : x.S.M.length < 8) (hV : ∀ k, V k → k < u.heap.size) (f : Nat) (caps : Array Value) (hin : ∀ args w, (callFunc f args).run Tryz.prog w = .ok (.enter f args) w) (Q : Int → M → TX → World → Prop)
    (hb : Body w0 u m gm g S x.open1 G V f caps Q) : Calls Tryz.prog 38 #[ptr g, .func (.func f) #[] caps] u (Scoped w0 u m gm g x G V Q) := by
  have cm := h.mark (V := V) (j := 0) rfl (x.mark_ok hs hd)
  have K : Hid (∀ um, ToG w0 u m gm S [(g, x.open1)] G V um → Upd G u um → Calls Tryz.prog 61 #[ptr g, .func (.func f) #[] caps] um (Scoped w0 u m gm g x G V Q)) := fun um hT hU => by
    have hi := inside_at (V := V) hT.has (by rw [TX.open1_len]; omega) (fun k hk => Nat.lt_of_lt_of_le (hV k hk) hT.upd.1) f caps hin Q (fun u1 hb1 hg1 => hb u1 _ (hU.trans (F' := fun _ => False) ⟨hb1.size, fun k hk _ => hb1.block k hk⟩ (fun _ hf => hf.elim)) (fun k hk => .inl hk) (fun k hk => hk.imp id (fun e => e.1)) hg1)
    refine hi.mono ?_
    rintro r u' ⟨e, S2, x2, u2, hq, rfl, ht, hk⟩
    rw [TX.open1_len] at ht ⊢
    exact ⟨e, S2, x2, u2, hq, rfl, hT.trans ht, fun k h1 h2 => hk k (Nat.lt_of_lt_of_le h1 hT.upd.1) (fun hn => hn.elim h2 (fun hn => by omega))⟩
  have cm' : Calls Tryz.prog 60 #[ptr g] u fun r um => r = .returned (.int .i64 0) ∧ ToG w0 u m gm S [(g, x.open1)] G V um ∧ Upd G u um := by
    refine (h.mark (V := fun _ => False) (j := 0) rfl (x.mark_ok hs hd)).mono ?_
    rintro r um ⟨a, b⟩
    exact ⟨a, b.wide (fun _ hk => hk.elim), b.upd.1, fun k hk hn => b.upd.2 k hk (fun e => e.elim hn id)⟩
  have hne := neNil f caps
  clear cm h hb hV hs hd
  unfold ptr at *
  go_enter Tryz.func38, Tryz.ntmps38
  go_wp2_with fail
  refine cm'.mono ?_
  rintro e um ⟨rfl, k1, k2⟩
  have ci := K.out um k1 k2
  clear k1 k2 K
  go_wp2_with (go_at_call 61; refine ci.mono ?_; rintro e u' ⟨e, S2, x2, u2, hq, rfl, ht⟩; have HT : Hid (Scoped w0 u m gm g x G V Q (.returned (.int .i64 (x2.shutE (x.S.M.length + 1) e))) u') := ⟨e, S2, x2, u2, hq, rfl, ht⟩; clear hq ht; generalize x2.shutE (x.S.M.length + 1) e = z at *)
  go_ret
  exact HT.out
set_option maxRecDepth 20000 in
theorem scope_nil (g : Value) (w : World) : Calls Tryz.prog 38 #[g, .nilFunc] w fun r w' => r = .returned (.int .i64 1) ∧ w' = w := by
  have hne := eqNil
  go_enter Tryz.func38, Tryz.ntmps38
  go_wp2_with fail
  go_ret
  exact ⟨rfl, rfl⟩
set_option maxRecDepth 20000 in
theorem scope_no {w : World} {p : Option Addr} (h : NoT w p) (f : Nat) (caps : Array Value) : Calls Tryz.prog 38 #[.pointer p, .func (.func f) #[] caps] w fun r w' => r = .returned (.int .i64 1) ∧ w' = w := by
  have hne := neNil f caps
  have cm := mark_no h
  clear h
  go_enter Tryz.func38, Tryz.ntmps38
  go_wp2_with (go_at_call 60; refine cm.mono ?_; rintro e wx ⟨rfl, hwx⟩; subst wx)
  go_ret
  exact ⟨rfl, rfl⟩
set_option maxRecDepth 20000 in
theorem scope_over (h : Hg w0 u m gm S [(g, x)] G) (hs : x.st ≠ 1) (f : Nat) (caps : Array Value) : Calls Tryz.prog 38 #[ptr g, .func (.func f) #[] caps] u fun r u' => r = .returned (.int .i64 132) ∧ ToG w0 u m gm S [(g, x)] G V u' := by
  have hne := neNil f caps
  have cm := h.mark (V := V) (j := 0) rfl (show x.mark = (132, x) by unfold TX.mark; rw [if_pos hs])
  simp only [List.set_cons_zero] at cm
  clear h hs
  unfold ptr at *
  go_enter Tryz.func38, Tryz.ntmps38
  go_wp2_with (go_at_call 60; refine cm.mono ?_; rintro e u' ⟨rfl, k⟩; have HK : Hid (ToG w0 u m gm S [(g, x)] G V u') := k; clear k)
  go_ret
  exact ⟨rfl, HK.out⟩
end
end Go.Proofs.YtafiopjgegmfoaaGreat.T
