/-
  cmp.Or of two; closed.
-/
import Derived.Test.YtafiopjgegmfoaaGreatNShut
namespace Go.Proofs.YtafiopjgegmfoaaGreat.T
open Go.RowKit Go.Proofs.YtafiopjgegmfoaaGreat.C
/-- the least number of which I holds -/
noncomputable def least (I : Nat → World → Prop) (u : World) : Nat := Classical.epsilon fun k => I k u ∧ ∀ j, I j u → k ≤ j
theorem least_is {I : Nat → World → Prop} {u : World} (h : ∃ k, I k u) : I (least I u) u ∧ ∀ j, I j u → least I u ≤ j := by
  have : ∃ k, I k u ∧ ∀ j, I j u → k ≤ j := by
    obtain ⟨k, hk⟩ := h
    induction k using Nat.strongRecOn with
    | _ k ih =>
      by_cases hj : ∃ j, j < k ∧ I j u
      · obtain ⟨j, h1, h2⟩ := hj
        exact ih j h1 h2
      · exact ⟨k, hk, fun j h2 => by
          rcases Nat.lt_or_ge j k with h | h
          · exact absurd ⟨j, h, h2⟩ hj
          · exact h⟩
  exact Classical.epsilon_spec this
set_option maxHeartbeats 1000000 in
set_option maxRecDepth 20000 in
theorem or_at {w : World} {gs : Nat} (e c : Int) (h : Box w gs #[.int .i64 e, .int .i64 c] 23) (hc : c ≠ 0) : Calls Tryz.prog 89 #[.slice (some ⟨gs, 0, none⟩) 2 2] w fun r w' => r = .returned (.int .i64 (if e ≠ 0 then e else c)) ∧ w' = w := by
  have c0 : w.cell? ⟨gs, 0, none⟩ = some (.int .i64 e) := h.cell 0
  have c1 : w.cell? ⟨gs, 1, none⟩ = some (.int .i64 c) := h.cell 1
  clear h
  go_enter Tryz.func89, Tryz.ntmps89
  go_wp2_with fail
  go_loopw [8] (fun i u => ∃ k : Nat, k ≤ 1 ∧ i = .int .i64 (k : Int) ∧ (1 ≤ k → e = 0) ∧ u = w) (fun i _ => 2 - (Go.RowKit.intOf i).toNat)
  case atStart => exact ⟨0, Nat.zero_le _, rfl, fun h => by omega, rfl⟩
  case round =>
    obtain ⟨k, hk, rfl, he, rfl⟩ := hrel
    have hk2 : k = 0 ∨ k = 1 := by omega
    rcases hk2 with rfl | rfl
    · by_cases h0 : e = 0
      · go_wp2_with fail
        exact ⟨⟨1, Nat.le_refl 1, rfl, fun _ => h0, trivial⟩, by simp [RowKit.intOf]⟩
      · go_wp2_with fail
        go_ret
        simp
    · have h0 := he (by omega)
      subst h0
      go_wp2_with fail
      go_ret
      simp
section
variable {w0 u : World} {m gm g : Nat} {S : M} {x : TX} {G V : Nat → Prop}
theorem ToG.below {u' : World} (h : Hg w0 u m gm S [(g, x)] G) (hb : Below u.heap.size u u') : ToG w0 u m gm S [(g, x)] G V u' :=
  ⟨(h.below hb).wide (fun _ hy => .inl hy) (fun _ hy => hy.elim (h.below hb).gB (fun e => ⟨Nat.le_trans h.mm.hB e.1, e.2⟩)), hb.size, fun k hk _ => hb.block k hk⟩
set_option maxHeartbeats 1000000 in
set_option maxRecDepth 20000 in
theorem closed_over (h : Hg w0 u m gm S [(g, x)] G) (hs : x.st ≠ 1) (d : Nat) (e : Int) : Calls Tryz.prog 75 #[ptr g, .int .i64 (d : Int), .int .i64 e] u fun r u' => r = .returned (.int .i64 (x.shutE d e)) ∧ ToG w0 u m gm S [(g, x.shut d e)] G V u' := by
  have cs := h.status (j := 0) rfl
  have hX : x.shut d e = x := by unfold TX.shut; rw [if_pos hs]
  have hE : x.shutE d e = if e ≠ 0 then e else 132 := by unfold TX.shutE; rw [if_pos hs]
  have K : Hid (∀ u', Below u.heap.size u u' → ToG w0 u m gm S [(g, x.shut d e)] G V u') := fun u' hb => by rw [hX]; exact ToG.below h hb
  have co := or_at (w := u.alloc (.cells #[.int .i64 e, .int .i64 132] 23)) e 132 (Box.new u _ 23) (by decide)
  have hb : Hid (Below u.heap.size u (u.alloc (.cells #[.int .i64 e, .int .i64 132] 23))) := (Below.refl _ _).alloc (Nat.le_refl _) _
  rw [hE]
  generalize (if e ≠ 0 then e else 132) = z at co ⊢
  have hs' : (x.st == 1) = false := by simpa using hs
  generalize x.st = st at *
  clear h hX hE
  unfold ptr at *
  go_enter Tryz.func75, Tryz.ntmps75
  go_wp2_with (first | (go_at_call 39; refine cs.mono ?_; rintro e wx ⟨rfl, hwx⟩; subst wx) | (go_at_call 89; refine co.mono ?_; rintro e wx ⟨rfl, hwx⟩; subst wx))
  go_ret
  exact ⟨rfl, K.out _ hb.out⟩
set_option maxHeartbeats 1000000 in
set_option maxRecDepth 20000 in
theorem closed_less (h : Hg w0 u m gm S [(g, x)] G) (hs : x.st = 1) (d : Nat) (hd : x.S.M.length < d) (e : Int) : Calls Tryz.prog 75 #[ptr g, .int .i64 (d : Int), .int .i64 e] u fun r u' => r = .returned (.int .i64 (x.shutE d e)) ∧ ToG w0 u m gm S [(g, x.shut d e)] G V u' := by
  have cs := h.status (j := 0) rfl
  have cd := h.depth (j := 0) rfl
  have hX : x.shut d e = x := by unfold TX.shut; rw [if_neg (by omega), if_pos hd]
  have hE : x.shutE d e = if e ≠ 0 then e else 136 := by unfold TX.shutE; rw [if_neg (by omega), if_pos hd]
  have K : Hid (∀ u', Below u.heap.size u u' → ToG w0 u m gm S [(g, x.shut d e)] G V u') := fun u' hb => by rw [hX]; exact ToG.below h hb
  have co := or_at (w := u.alloc (.cells #[.int .i64 e, .int .i64 136] 23)) e 136 (Box.new u _ 23) (by decide)
  have hb : Hid (Below u.heap.size u (u.alloc (.cells #[.int .i64 e, .int .i64 136] 23))) := (Below.refl _ _).alloc (Nat.le_refl _) _
  have hd' : (x.S.M.length : Int) < (d : Int) := by omega
  rw [hE]
  generalize (if e ≠ 0 then e else 136) = z at co ⊢
  rw [hs] at cs
  generalize x.S.M.length = n at *
  clear h hX hE hs hd
  unfold ptr at *
  go_enter Tryz.func75, Tryz.ntmps75
  go_wp2_with (first | (go_at_call 39; refine cs.mono ?_; rintro e wx ⟨rfl, hwx⟩; subst wx) | (go_at_call 26; refine cd.mono ?_; rintro e wx ⟨rfl, hwx⟩; subst wx) | (go_at_call 89; refine co.mono ?_; rintro e wx ⟨rfl, hwx⟩; subst wx))
  go_ret
  exact ⟨rfl, K.out _ hb.out⟩
theorem enter16 : ∀ args w, (callFunc 90 args).run Tryz.prog w = .ok (.enter 90 args) w := enters_of Tryz.func90 (by kernel_rfl) rfl
theorem enter87 : ∀ args w, (callFunc 91 args).run Tryz.prog w = .ok (.enter 91 args) w := enters_of Tryz.func91 (by kernel_rfl) rfl
theorem ToG.cutK {u' : World} {i : Nat} {e : Int} (hs : x.st = 1) (he : e = 0) (hi : i < x.S.M.length) (h : ToG w0 u m gm S [(g, x.cut e i)] G V u') : Calls Tryz.prog 90 #[ptr g] u' fun r u2 => r = .returned (.int .i64 0) ∧ ToG w0 u m gm S [(g, x.cut e (i + 1))] G V u2 := 
  (h.has.keep (V := V) (j := 0) rfl (x.cut_keep e i hs he hi)).mono fun _ _ ⟨a, b⟩ => ⟨a, h.trans b⟩
theorem ToG.cutU {u' : World} {i : Nat} {e : Int} (hs : x.st = 1) (he : e ≠ 0) (hi : i < x.S.M.length) (h : ToG w0 u m gm S [(g, x.cut e i)] G V u') : Calls Tryz.prog 91 #[ptr g] u' fun r u2 => r = .returned (.int .i64 0) ∧ ToG w0 u m gm S [(g, x.cut e (i + 1))] G V u2 := 
  (h.has.undo (V := V) (j := 0) rfl (x.cut_undo e i hs he hi)).mono fun _ _ ⟨a, b⟩ => ⟨a, h.trans b⟩
set_option maxHeartbeats 1000000 in
set_option maxRecDepth 20000 in
theorem closed_keep (h : Hg w0 u m gm S [(g, x)] G) (hs : x.st = 1) (d : Nat) (h1 : 1 ≤ d) (hd : d ≤ x.S.M.length) (e : Int) (he : e = 0) : Calls Tryz.prog 75 #[ptr g, .int .i64 (d : Int), .int .i64 e] u fun r u' => r = .returned (.int .i64 (x.shutE d e)) ∧ ToG w0 u m gm S [(g, x.shut d e)] G V u' := by
  subst he
  have hmf : ∀ (fn : Fn) (first cap : Array Value) (w : World), (Instr.makeFunc fn first cap).run Tryz.prog w = .ok (.func fn first cap) w := fun _ _ _ _ => rfl
  have cs := h.status (j := 0) rfl
  have cd := h.depth (j := 0) rfl
  have hX : Hid (x.shut d 0 = x.cut 0 (x.S.M.length - (d - 1))) := by unfold Hid TX.shut; rw [if_neg (by omega), if_neg (by omega)]
  have hE : x.shutE d 0 = 0 := by unfold TX.shutE; rw [if_neg (by omega), if_neg (by omega)]
  have H0 : Hid (ToG w0 u m gm S [(g, x.cut 0 0)] G V u) := by unfold Hid; rw [TX.cut_zero]; exact ToG.refl h
  have CD : Hid (∀ i u', ToG w0 u m gm S [(g, x.cut 0 i)] G V u' → Calls Tryz.prog 26 #[ptr g] u' fun r u2 => r = .returned (.int .i64 ((x.S.M.length - i : Nat) : Int)) ∧ u2 = u') := fun i u' hT => by
    have := hT.has.depth (j := 0) rfl
    rwa [TX.cut_len] at this
  have CK : Hid (∀ i u', i < x.S.M.length → ToG w0 u m gm S [(g, x.cut 0 i)] G V u' → Calls Tryz.prog 90 #[ptr g] u' fun r u2 => r = .returned (.int .i64 0) ∧ ToG w0 u m gm S [(g, x.cut 0 (i + 1))] G V u2) := fun i u' hi hT => ToG.cutK hs rfl hi hT
  have hdd : decide (x.S.M.length < d) = false := by simp; omega
  have hnd : ¬ ((x.S.M.length : Int) < (d : Int)) := by omega
  rw [hE]
  rw [hs] at cs
  have hN : Hid (d ≤ x.S.M.length ∧ 1 ≤ d) := ⟨hd, h1⟩
  obtain ⟨n, hn⟩ : ∃ n, n = x.S.M.length := ⟨_, rfl⟩
  rw [← hn] at cd hX CD CK hnd hN hdd
  have h16 := enter16
  obtain ⟨I, hI0⟩ : ∃ I : Nat → World → Prop, I = fun k u' => ∃ i, i + k = n - (d - 1) ∧ ToG w0 u m gm S [(g, x.cut 0 i)] G V u' := ⟨_, rfl⟩
  have HI : Hid (∀ k u', I k u' → ∃ i, i + k = n - (d - 1) ∧ ToG w0 u m gm S [(g, x.cut 0 i)] G V u') := fun k u' h => by rw [hI0] at h; exact h
  have HI2 : Hid (∀ k u' i, i + k = n - (d - 1) → ToG w0 u m gm S [(g, x.cut 0 i)] G V u' → I k u') := fun k u' i h h' => by rw [hI0]; exact ⟨i, h, h'⟩
  have HI0 : Hid (∃ k, I k u) := ⟨n - (d - 1), HI2.out _ _ 0 (by omega) H0.out⟩
  clear hI0
  clear h hE hs hd hn h1
  unfold ptr at *
  go_enter Tryz.func75, Tryz.ntmps75
  go_wp2_with (first | (go_at_call 39; refine cs.mono ?_; rintro e wx ⟨rfl, hwx⟩; subst wx) | (go_at_call 26; refine cd.mono ?_; rintro e wx ⟨rfl, hwx⟩; subst wx))
  go_loopw [32] (fun _ u' => ∃ k, I k u') (fun _ u' => least I u')
  case atStart => exact HI0.out
  case round =>
    obtain ⟨hI, _⟩ := least_is hrel
    clear hrel
    obtain ⟨k, hk⟩ : ∃ k, k = least I wr := ⟨_, rfl⟩
    have HK : Hid (k = least I wr) := hk
    rw [← hk] at hI
    obtain ⟨i, hik, hT⟩ := HI.out k wr hI
    have HT : Hid (ToG w0 u m gm S [(g, x.cut 0 i)] G V wr) := hT
    clear hT hI hk
    have c1 := CD.out i wr HT.out
    by_cases hlt : n - i < d
    · have hlt' : ((n - i : Nat) : Int) < (d : Int) := by omega
      go_wp2_with (go_at_call 26; refine c1.mono ?_; rintro e wx ⟨rfl, hwx⟩; subst wx)
      go_ret
      refine ⟨rfl, ?_⟩
      have hi : i = n - (d - 1) := by have := hN.out; omega
      rw [hX.out, ← hi]
      exact HT.out
    · have hlt' : ¬ ((n - i : Nat) : Int) < (d : Int) := by omega
      go_wp2_with (go_at_call 26; refine c1.mono ?_; rintro e wx ⟨rfl, hwx⟩; subst wx)
      refine (CK.out i wr (by have := hN.out; omega) HT.out).mono ?_
      rintro e' w2 ⟨rfl, k2⟩
      have K2 : Hid (ToG w0 u m gm S [(g, x.cut 0 (i + 1))] G V w2) := k2
      clear k2
      go_wp2_with fail
      have hk1 : I (k - 1) w2 := HI2.out (k - 1) w2 (i + 1) (by have := hN.out; omega) K2.out
      refine ⟨⟨_, hk1⟩, ?_⟩
      have := (least_is ⟨_, hk1⟩).2 _ hk1
      rw [← HK.out]
      have := hN.out
      omega
set_option maxHeartbeats 1000000 in
set_option maxRecDepth 20000 in
theorem closed_undo (h : Hg w0 u m gm S [(g, x)] G) (hs : x.st = 1) (d : Nat) (h1 : 1 ≤ d) (hd : d ≤ x.S.M.length) (e : Int) (he : e ≠ 0) : Calls Tryz.prog 75 #[ptr g, .int .i64 (d : Int), .int .i64 e] u fun r u' => r = .returned (.int .i64 (x.shutE d e)) ∧ ToG w0 u m gm S [(g, x.shut d e)] G V u' := by
  have hmf : ∀ (fn : Fn) (first cap : Array Value) (w : World), (Instr.makeFunc fn first cap).run Tryz.prog w = .ok (.func fn first cap) w := fun _ _ _ _ => rfl
  have cs := h.status (j := 0) rfl
  have cd := h.depth (j := 0) rfl
  have hX : Hid (x.shut d e = x.cut e (x.S.M.length - (d - 1))) := by unfold Hid TX.shut; rw [if_neg (by omega), if_neg (by omega)]
  have hE : x.shutE d e = e := by unfold TX.shutE; rw [if_neg (by omega), if_neg (by omega)]
  have H0 : Hid (ToG w0 u m gm S [(g, x.cut e 0)] G V u) := by unfold Hid; rw [TX.cut_zero]; exact ToG.refl h
  have CD : Hid (∀ i u', ToG w0 u m gm S [(g, x.cut e i)] G V u' → Calls Tryz.prog 26 #[ptr g] u' fun r u2 => r = .returned (.int .i64 ((x.S.M.length - i : Nat) : Int)) ∧ u2 = u') := fun i u' hT => by
    have := hT.has.depth (j := 0) rfl
    rwa [TX.cut_len] at this
  have CK : Hid (∀ i u', i < x.S.M.length → ToG w0 u m gm S [(g, x.cut e i)] G V u' → Calls Tryz.prog 91 #[ptr g] u' fun r u2 => r = .returned (.int .i64 0) ∧ ToG w0 u m gm S [(g, x.cut e (i + 1))] G V u2) := fun i u' hi hT => ToG.cutU hs he hi hT
  have hdd : decide (x.S.M.length < d) = false := by simp; omega
  have hen : (e != 0) = true := by simpa using he
  have hnd : ¬ ((x.S.M.length : Int) < (d : Int)) := by omega
  rw [hE]
  rw [hs] at cs
  have hN : Hid (d ≤ x.S.M.length ∧ 1 ≤ d) := ⟨hd, h1⟩
  obtain ⟨n, hn⟩ : ∃ n, n = x.S.M.length := ⟨_, rfl⟩
  rw [← hn] at cd hX CD CK hnd hN hdd
  have h87 := enter87
  obtain ⟨I, hI0⟩ : ∃ I : Nat → World → Prop, I = fun k u' => ∃ i, i + k = n - (d - 1) ∧ ToG w0 u m gm S [(g, x.cut e i)] G V u' := ⟨_, rfl⟩
  have HI : Hid (∀ k u', I k u' → ∃ i, i + k = n - (d - 1) ∧ ToG w0 u m gm S [(g, x.cut e i)] G V u') := fun k u' h => by rw [hI0] at h; exact h
  have HI2 : Hid (∀ k u' i, i + k = n - (d - 1) → ToG w0 u m gm S [(g, x.cut e i)] G V u' → I k u') := fun k u' i h h' => by rw [hI0]; exact ⟨i, h, h'⟩
  have HI0 : Hid (∃ k, I k u) := ⟨n - (d - 1), HI2.out _ _ 0 (by omega) H0.out⟩
  clear hI0
  clear h hE hs hd hn h1
  unfold ptr at *
  go_enter Tryz.func75, Tryz.ntmps75
  go_wp2_with (first | (go_at_call 39; refine cs.mono ?_; rintro e wx ⟨rfl, hwx⟩; subst wx) | (go_at_call 26; refine cd.mono ?_; rintro e wx ⟨rfl, hwx⟩; subst wx))
  go_loopw [32] (fun _ u' => ∃ k, I k u') (fun _ u' => least I u')
  case atStart => exact HI0.out
  case round =>
    obtain ⟨hI, _⟩ := least_is hrel
    clear hrel
    obtain ⟨k, hk⟩ : ∃ k, k = least I wr := ⟨_, rfl⟩
    have HK : Hid (k = least I wr) := hk
    rw [← hk] at hI
    obtain ⟨i, hik, hT⟩ := HI.out k wr hI
    have HT : Hid (ToG w0 u m gm S [(g, x.cut e i)] G V wr) := hT
    clear hT hI hk
    have c1 := CD.out i wr HT.out
    by_cases hlt : n - i < d
    · have hlt' : ((n - i : Nat) : Int) < (d : Int) := by omega
      go_wp2_with (go_at_call 26; refine c1.mono ?_; rintro e wx ⟨rfl, hwx⟩; subst wx)
      go_ret
      refine ⟨rfl, ?_⟩
      have hi : i = n - (d - 1) := by have := hN.out; omega
      rw [hX.out, ← hi]
      exact HT.out
    · have hlt' : ¬ ((n - i : Nat) : Int) < (d : Int) := by omega
      go_wp2_with (go_at_call 26; refine c1.mono ?_; rintro e wx ⟨rfl, hwx⟩; subst wx)
      refine (CK.out i wr (by have := hN.out; omega) HT.out).mono ?_
      rintro e' w2 ⟨rfl, k2⟩
      have K2 : Hid (ToG w0 u m gm S [(g, x.cut e (i + 1))] G V w2) := k2
      clear k2
      go_wp2_with fail
      have hk1 : I (k - 1) w2 := HI2.out (k - 1) w2 (i + 1) (by have := hN.out; omega) K2.out
      refine ⟨⟨_, hk1⟩, ?_⟩
      have := (least_is ⟨_, hk1⟩).2 _ hk1
      rw [← HK.out]
      have := hN.out
      omega
theorem closed_at (h : Hg w0 u m gm S [(g, x)] G) (d : Nat) (h1 : 1 ≤ d) (e : Int) : Calls Tryz.prog 75 #[ptr g, .int .i64 (d : Int), .int .i64 e] u fun r u' => r = .returned (.int .i64 (x.shutE d e)) ∧ ToG w0 u m gm S [(g, x.shut d e)] G V u' := by
  by_cases hs : x.st = 1
  · by_cases hd : x.S.M.length < d
    · exact closed_less h hs d hd e
    · by_cases he : e = 0
      · exact closed_keep h hs d h1 (by omega) e he
      · exact closed_undo h hs d h1 (by omega) e he
  · exact closed_over h hs d e
end
end Go.Proofs.YtafiopjgegmfoaaGreat.T
