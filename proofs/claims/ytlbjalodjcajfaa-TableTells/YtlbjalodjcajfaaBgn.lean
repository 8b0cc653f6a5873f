/-
  The laws' begun: a memory, a transaction, a table.
-/
import Derived.Test.YtlbjalodjcajfaaHsp
namespace Go.Proofs.Ytlbjalodjcajfaa
open Go.RowKit Go.Maps
set_option maxRecDepth 100000 in
set_option maxHeartbeats 2000000 in
theorem begin_raw {u : World} {m g n : Nat} {k : Int} (hm : Box u m #[ptr m, .slice (some ⟨g, 0, none⟩) n n, .int .i64 k] 72) (n1 : 1 ≤ n) :
    Calls Try.prog 7 #[ptr m, .int .i64 1] u fun r w' => ∃ x, r = .returned (.tuple #[ptr x, .int .i64 0]) ∧ ∃ s, Box w' x (tcells x m s k 1) 80 ∧ Below u.heap.size u w' := by
  have c := size_at hm
  have ck := clock_at hm
  have cn := snew_at u
  have h0 : ¬ (n : Int) = 0 := by omega
  have h0' : ((n : Int) == 0) = false := by simpa using h0
  clear hm h0
  unfold ptr at *
  go_enter Try.func7, Try.ntmps7
  go_wp2_with (first | (go_at_call 25; refine c.mono ?_; rintro e wx ⟨rfl, hwx⟩; subst wx) | (go_at_call 26; refine ck.mono ?_; rintro e wx ⟨rfl, hwx⟩; subst wx))
  refine cn.mono ?_
  rintro e w1 ⟨s, rfl, hs, hS, hb⟩
  have HB := hid hb
  clear hS hb cn c ck hs
  unfold ptr at *
  go_wp2_with fail
  go_ret2
  refine ⟨w1.heap.size, by simp, s, Box.new w1 _ 80, HB.out.trans (((Below.refl _ w1).alloc (Nat.le_refl _) _).mono HB.out.size)⟩
theorem of_raw {u : World} {x m g n s : Nat} {k bb : Int} (hx : Box u x (tcells x m s bb 1) 80) (hm : Box u m #[ptr m, .slice (some ⟨g, 0, none⟩) n n, .int .i64 k] 72) (hn : n ≤ 1024) (b j : Int) (hb : j < 1 ∨ 200 < j ∨ b < 0 ∨ (n : Int) - j < b) :
    Calls Try.prog 8 #[ptr x, .int .i64 b, .int .i64 j] u fun r w' => r = .returned (.tuple #[.pointer none, .int .i64 2]) ∧ w' = u := by
  have c := status_at hx
  have cc := cells_at hx hm
  clear hx hm
  unfold ptr at *
  by_cases h1 : j < 1
  · go_enter Try.func8, Try.ntmps8
    go_wp2_with (go_at_call 28; refine c.mono ?_; rintro e wx ⟨rfl, hwx⟩; subst wx)
    go_ret2
    simp
  by_cases h2 : 200 < j
  · go_enter Try.func8, Try.ntmps8
    go_wp2_with (go_at_call 28; refine c.mono ?_; rintro e wx ⟨rfl, hwx⟩; subst wx)
    go_ret2
    simp
  by_cases h3 : b < 0
  · go_enter Try.func8, Try.ntmps8
    go_wp2_with (go_at_call 28; refine c.mono ?_; rintro e wx ⟨rfl, hwx⟩; subst wx)
    go_ret2
    simp
  have h4 : (n : Int) - j < b := by omega
  have r1 : IntKind.i64.wrap ((n : Int) - j) = (n : Int) - j := by rw [IntKind.wrap_i64]; omega
  clear hb
  go_enter Try.func8, Try.ntmps8
  go_wp2_with (first | (go_at_call 28; refine c.mono ?_; rintro e wx ⟨rfl, hwx⟩; subst wx) | (go_at_call 29; refine cc.mono ?_; rintro e wx ⟨rfl, hwx⟩; subst wx))
  go_ret2
  simp
theorem begun_bad (w : World) (s : Nat) (s1 : 1 ≤ s) (s2 : s ≤ 1024) (b j : Int) (hb : j < 1 ∨ 200 < j ∨ b < 0 ∨ (s : Int) - j < b) :
    Calls Try.prog 13 #[.int .i64 (s : Int), .int .i64 b, .int .i64 j] w fun r w' => ∃ x, r = .returned (.tuple #[ptr x, .pointer none, .int .i64 2]) ∧ Below w.heap.size w w' := by
  have cn := cnew_at w s s1 s2
  unfold ptr at *
  go_enter Try.func13, Try.ntmps13
  go_wp2_with fail
  refine cn.mono ?_
  rintro e w1 ⟨m, g, rfl, _, _, _, hm, _, hb1⟩
  have cb := begin_raw hm s1
  have HM := hid (And.intro hm hb1)
  clear cn hm hb1
  unfold ptr at *
  go_wp2_with fail
  refine cb.mono ?_
  rintro e w2 ⟨x, rfl, sb, hx, hb2⟩
  have co := of_raw hx (HM.out.1.below hb2 HM.out.1.lt) s2 b j hb
  have HB := hid (HM.out.2.trans (hb2.mono HM.out.2.size))
  clear cb hx hb2 HM hb
  unfold ptr at *
  go_wp2_with (go_at_call 8; refine co.mono ?_; rintro e wx ⟨rfl, hwx⟩; subst wx)
  go_ret3
  exact ⟨x, rfl, HB.out⟩
theorem begun_at (w : World) (s base n : Nat) (s2 : s ≤ 256) (n1 : 1 ≤ n) (n2 : n ≤ 200) (hb : base + n ≤ s) :
    Calls Try.prog 13 #[.int .i64 (s : Int), .int .i64 (base : Int), .int .i64 (n : Int)] w fun r w' => ∃ x t V, r = .returned (.tuple #[ptr x, ptr t, .int .i64 0]) ∧ HasP w w' x t base n s [] [tb t x base n] V := by
  have cn := cnew_at w s (by omega) (by omega)
  unfold ptr at *
  go_enter Try.func13, Try.ntmps13
  go_wp2_with fail
  refine cn.mono ?_
  rintro e w1 ⟨m, g, rfl, om, og, mg, hm, hg, hb1⟩
  have cb := begin_at (w0 := w) (K := []) hm hg om og (by simp [C0]) (by omega) s2 (Int.le_refl _) (fun c hc => by rw [(List.mem_replicate.1 hc).2]; simp) (fun y hy => by cases hy) (fun y hy => by cases hy) hb1
  clear cn hm hg om og mg hb1
  unfold ptr at *
  go_wp2_with fail
  refine cb.mono ?_
  rintro e w2 ⟨x, rfl, sb, Fs, hT⟩
  have hV : ((C0 s).map (·.e)) = List.replicate s E0 := by simp [C0]
  rw [hV] at hT
  have hT2 : HasT w w2 x 1 (List.replicate s E0) [] := ⟨_, _, _, _, _, _, _, _, _, hT⟩
  have co := of_at (base := base) (n := n) hT2 n1 n2 (by simpa using hb)
  clear cb hT hV hT2
  unfold ptr at *
  go_wp2_with fail
  refine co.mono ?_
  rintro e w3 ⟨t, rfl, _, h3⟩
  have H3 := hid h3
  clear co h3
  unfold ptr at *
  go_wp2_with fail
  go_ret3
  refine ⟨x, t, List.replicate s E0, rfl, H3.out, List.mem_cons_self .., n1, by simp, hb, ?_, List.Pairwise.nil, Nat.zero_le _⟩
  unfold seg tbl
  simp
  omega
end Go.Proofs.Ytlbjalodjcajfaa
