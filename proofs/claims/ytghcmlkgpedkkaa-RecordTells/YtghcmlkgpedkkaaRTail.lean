/-
  The document's own Head and Stamped; CopyLists of any lists.
-/
import Derived.Test.YtghcmlkgpedkkaaRRead
namespace Go.Proofs.Ytghcmlkgpedkkaa
open Go.RowKit

set_option maxRecDepth 100000 in
set_option maxHeartbeats 1000000 in
theorem rhead_tell (a : Option Addr) (n cap : Nat) (xs : List UInt8) (w : World) (hl : xs.length = n) (hr : Rd w a xs) (hcap : n ≤ cap) : Calls Try.prog 24 #[.slice a n cap] w (HeadR w xs) := by
  have c := rread_at a n cap xs w hl hr hcap
  clear hl
  go_enter Try.func24, Try.ntmps24
  go_wp2_with fail
  refine c.mono ?_
  rintro r w1 (⟨hhd, ah, ch, qs, rfl, _, _, _, hb1⟩ | ⟨hhd, e, s, a', n', c', rfl, hb1⟩)
  · have hx : Hid (isHead xs) := hhd
    clear hhd c
    have bh := Box.new w1 #[.int .i64 (saidE xs : Int), .int .i64 (saidS xs : Int), .slice ah (saidEs xs).length ch] 28
    have B1 := hb1.alloc hb1.size (.cells #[.int .i64 (saidE xs : Int), .int .i64 (saidS xs : Int), .slice ah (saidEs xs).length ch] 28)
    have y0 := bh.cell 0
    have y1 := bh.cell 1
    have y2 := bh.cell 2
    go_wp2_with fail
    go_quiet (fail)
    go_wp2
    refine bodyPost_ret (v := .tuple #[.int .i64 (saidE xs : Int), .int .i64 (saidS xs : Int), .int .i64 ((saidEs xs).length : Int), .bool true]) (by simp [results, Try.results24, go_sem]) rfl ?_
    exact .inl ⟨hx.out, rfl, ⟨B1.os, B1.tape, B1.output, B1.size, B1.block⟩⟩
  · have hx : Hid (¬ isHead xs) := hhd
    clear hhd c
    have B1 := hb1.alloc hb1.size (.cells #[.int .i64 e, .int .i64 s, .slice a' n' c'] 28)
    go_wp2_with fail
    refine bodyPost_ret (v := .tuple #[.int .i64 0, .int .i64 0, .int .i64 0, .bool false]) (by simp [results, Try.results24, go_sem]) rfl ?_
    exact .inr ⟨hx.out, rfl, B1⟩

/-- each sector begins with the stamp, byte by byte -/
theorem marked_iff (xs M : List UInt8) (_hl : xs.length = 4096) (hM : M.length = 8) : allMarked xs M = true ↔ ∀ i, i < 4096 → i % 512 < 8 → xs[i]? = M[i % 512]? := by
  unfold allMarked
  rw [List.all_eq_true]
  constructor
  · intro h i hi h8
    have h1 := h ⟨i / 512, by omega⟩ (List.mem_finRange _)
    have h2 : (sec xs (i / 512)).take 8 = M := by simpa using h1
    have h3 := congrArg (fun l : List UInt8 => l[i % 512]?) h2
    rw [List.getElem?_take, if_pos h8, sec_get, if_pos (by omega), show i / 512 * 512 + i % 512 = i by omega] at h3
    exact h3
  · intro h x _
    have : (sec xs x.val).take 8 = M := by
      refine List.ext_getElem? (fun i => ?_)
      rw [List.getElem?_take]
      by_cases hi : i < 8
      · have hx := x.isLt
        rw [if_pos hi, sec_get, if_pos (by omega), h _ (by omega) (by omega), show (x.val * 512 + i) % 512 = i by omega]
      · rw [if_neg hi, List.getElem?_eq_none (by omega)]
    simp [this]

set_option maxRecDepth 100000 in
set_option maxHeartbeats 2000000 in
theorem rstamped_no (a : Option Addr) (n cap : Nat) (xs : List UInt8) (e s : Int) (w : World) (hl : xs.length = n) (hno : ¬ (n = 4096 ∧ okStamp e s = true)) :
    Calls Try.prog 25 #[.slice a n cap, .int .i64 e, .int .i64 s] w fun r w' => r = .returned (.bool (stampedB xs e s)) ∧ Below w.heap.size w w' := by
  have hf : stampedB xs e s = false := by
    unfold stampedB
    rw [hl]
    by_cases h4 : n = 4096
    · have : okStamp e s = false := by
        cases h : okStamp e s with
        | false => rfl
        | true => exact absurd ⟨h4, h⟩ hno
      rw [this]
      simp
    · simp [h4]
  rw [hf]
  by_cases h4 : n = 4096
  · have hst : ¬ ((1 ≤ e ∧ e ≤ 8388608) ∧ 1 ≤ s ∧ s ≤ 549755813888) := fun h => hno ⟨h4, (okStamp_iff _ _).2 h⟩
    have hcase : e < 1 ∨ (¬ e < 1 ∧ 8388608 < e) ∨ (¬ e < 1 ∧ ¬ 8388608 < e ∧ s < 1) ∨ (¬ e < 1 ∧ ¬ 8388608 < e ∧ ¬ s < 1 ∧ 549755813888 < s) := by omega
    subst h4
    clear hno hst hf hl
    rcases hcase with h1 | ⟨h1, h2⟩ | ⟨h1, h2, h3⟩ | ⟨h1, h2, h3, h4⟩
    all_goals
      go_enter Try.func25, Try.ntmps25
      go_wp2_with fail
      go_ret
      exact ⟨rfl, Below.refl _ _⟩
  · have hb : ((n : Int) == 4096) = false := by simp; omega
    have hb2 : ((n : Int) != 4096) = true := by simp; omega
    clear hno hf hl h4
    go_enter Try.func25, Try.ntmps25
    go_wp2_with fail
    go_ret
    exact ⟨rfl, Below.refl _ _⟩
set_option maxRecDepth 100000 in
set_option maxHeartbeats 2000000 in
theorem rstamped_in (g o cap : Nat) (xs : List UInt8) (E S : Nat) (w : World) (hl : xs.length = 4096) (_hcap : 4096 ≤ cap) (hr : Rd w (some ⟨g, o, none⟩) xs) (hok : okStamp E S = true) :
    Calls Try.prog 25 #[.slice (some ⟨g, o, none⟩) 4096 cap, .int .i64 (E : Int), .int .i64 (S : Int)] w fun r w' => r = .returned (.bool (stampedB xs E S)) ∧ Below w.heap.size w w' := by
  have hst := (okStamp_iff _ _).1 hok
  have hE : E ≤ 8388608 := by omega
  have hS : S ≤ 549755813888 := by omega
  have hb : Hid (stampedB xs E S = allMarked xs (mark E S)) := by
    show stampedB xs E S = _
    unfold stampedB
    rw [hok, hl]
    simp
  have HM : Hid (allMarked xs (mark E S) = true ↔ ∀ i, i < 4096 → i % 512 < 8 → xs[i]? = (mark E S)[i % 512]?) := marked_iff xs (mark E S) hl (mark_length _ _)
  have HL : Hid (xs.length = 4096) := hl
  have HR : Hid (Rd w (some ⟨g, o, none⟩) xs) := hr
  have j1 : ¬ (E : Int) < 1 := by omega
  have j2 : ¬ (8388608 : Int) < (E : Int) := by omega
  have j3 : ¬ (S : Int) < 1 := by omega
  have j4 : ¬ (549755813888 : Int) < (S : Int) := by omega
  have cS := rstamp_at E S (.slice none 0 0) w hE hS
  obtain ⟨q, hq⟩ : ∃ q, q = stampedB xs E S := ⟨_, rfl⟩
  rw [← hq] at hb ⊢
  clear hq hok hst hl hr
  go_enter Try.func25, Try.ntmps25
  go_wp2_with fail
  refine cS.mono ?_
  rintro r w1 ⟨gs, cs, rfl, lgs, rows, b1⟩
  clear cS j1 j2 j3 j4
  go_wp2_with fail
  go_loopw [8] (fun v u => ∃ k : Nat, k ≤ 4096 ∧ v = .int .i64 (k : Int) ∧ (∀ i, i < k → i % 512 < 8 → xs[i]? = (mark E S)[i % 512]?) ∧ RowB u gs cs (mark E S) ∧ Below w.heap.size w u) (fun v _ => 4096 - (intOf v).toNat)
  case atStart => exact ⟨0, by omega, rfl, fun i h => by omega, rows, b1⟩
  case round =>
    clear rows b1
    obtain ⟨k, hk, rfl, hp, rows, B⟩ := hrel
    have HP : Hid (∀ i, i < k → i % 512 < 8 → xs[i]? = (mark E S)[i % 512]?) := hp
    clear hp
    by_cases hlt : k < 4096
    · have hki : (k : Int) < 4096 := by omega
      by_cases h8 : k % 512 < 8
      · obtain ⟨j, hj⟩ : ∃ j : Nat, (k : Int) % 512 = (j : Int) := ⟨k % 512, by omega⟩
        have hjt : Hid (j = k % 512) := by show j = k % 512; omega
        have hj8 : (j : Int) < 8 := by omega
        have hm8 := mark_length E S
        obtain ⟨cj, _⟩ := rows.cellAt (j := j) (by omega)
        obtain ⟨g', o', he, hcx⟩ := HR.out (by rw [HL.out]; omega)
        obtain ⟨rfl, rfl⟩ : g = g' ∧ o = o' := by simpa using he
        have ck := hcx k (by rw [HL.out]; exact hlt)
        rw [← B.cell (p := ⟨g, o + k, none⟩) (block_lt_of_cell ck)] at ck
        have hx : Hid (xs[k]? = some (xs[k]'(by rw [HL.out]; exact hlt))) := List.getElem?_eq_getElem _
        have hm : Hid ((mark E S)[k % 512]? = some ((mark E S)[j]'(by omega))) := by
          show _ = _
          rw [← hjt.out]
          exact List.getElem?_eq_getElem (by omega)
        generalize (xs[k]'(by rw [HL.out]; exact hlt)) = xv at ck hx
        generalize ((mark E S)[j]'(by omega)) = mv at cj hm
        have hcs : 8 ≤ cs := by
          obtain ⟨cur, _, h1, _⟩ := rows
          rw [hm8] at h1
          exact h1
        have hj0 : (0 : Int) ≤ (j : Int) := by omega
        have hk0 : (0 : Int) ≤ (k : Int) := by omega
        clear hcx he hm8
        by_cases hv : xv = mv
        · subst hv
          have HP2 : Hid (∀ i, i < k + 1 → i % 512 < 8 → xs[i]? = (mark E S)[i % 512]?) := fun i hi hi8 => by
            by_cases e : i = k
            · subst e
              rw [hx.out, hm.out]
            · exact HP.out i (by omega) hi8
          go_wp2_with fail
          go_quiet (fail)
          have B2 := below_drewN B nq
          have rows2 : RowB (wr.drewN nq) gs cs (mark E S) := rows
          generalize wr.drewN nq = wq at B2 rows2 ⊢
          clear rows B ck cj
          go_wp2_with fail
          go_roundw
          case rel => exact ⟨k + 1, by omega, by push_cast; rfl, HP2.out, rows2, B2⟩
          case measure => simp [intOf]; omega
        · have hvb : ((xv.toNat : Int) == (mv.toNat : Int)) = false := by
            simp
            exact fun h => hv (UInt8.toNat_inj.1 (by omega))
          have hvn : ((xv.toNat : Int) != (mv.toNat : Int)) = true := by simp [bne, hvb]
          have hqf : q = false := by
            rw [hb.out]
            cases ha : allMarked xs (mark E S) with
            | false => rfl
            | true =>
              have := HM.out.1 ha k hlt (by have := hjt.out; omega)
              rw [hx.out, hm.out] at this
              exact absurd (Option.some.inj this) hv
          subst hqf
          clear hv
          go_wp2_with fail
          go_quiet (fail)
          have B2 := below_drewN B nq
          go_wp2_with fail
          go_ret
          exact ⟨rfl, B2⟩
      · have hi8 : ¬ (k : Int) % 512 < 8 := by omega
        have hd8 : decide ((k : Int) % 512 < 8) = false := by simpa using hi8
        have HP2 : Hid (∀ i, i < k + 1 → i % 512 < 8 → xs[i]? = (mark E S)[i % 512]?) := fun i hi h => by
          by_cases e : i = k
          · subst e
            exact absurd h h8
          · exact HP.out i (by omega) h
        clear h8
        go_wp2_with fail
        go_quiet (fail)
        have B2 := below_drewN B nq
        have rows2 : RowB (wr.drewN nq) gs cs (mark E S) := rows
        generalize wr.drewN nq = wq at B2 rows2 ⊢
        clear rows B
        go_wp2_with fail
        go_roundw
        case rel => exact ⟨k + 1, by omega, by push_cast; rfl, HP2.out, rows2, B2⟩
        case measure => simp [intOf]; omega
    · have hk2 : k = 4096 := by omega
      have hqt : q = true := by
        rw [hb.out]
        exact HM.out.2 (by have := HP.out; rw [hk2] at this; exact this)
      subst hqt
      go_wp2_with fail
      go_ret
      exact ⟨rfl, B⟩
theorem rstamped_at (a : Option Addr) (n cap : Nat) (xs : List UInt8) (e s : Int) (w : World) (hl : xs.length = n) (hcap : n ≤ cap) (hr : Rd w a xs) :
    Calls Try.prog 25 #[.slice a n cap, .int .i64 e, .int .i64 s] w fun r w' => r = .returned (.bool (stampedB xs e s)) ∧ Below w.heap.size w w' := by
  by_cases h : n = 4096 ∧ okStamp e s = true
  · obtain ⟨rfl, hok⟩ := h
    have hst := (okStamp_iff _ _).1 hok
    obtain ⟨E, rfl⟩ : ∃ E : Nat, e = (E : Int) := ⟨e.toNat, by omega⟩
    obtain ⟨S, rfl⟩ : ∃ S : Nat, s = (S : Int) := ⟨s.toNat, by omega⟩
    obtain ⟨g, o, rfl, _⟩ := hr (by omega)
    exact rstamped_in g o cap xs E S w hl hcap hr hok
  · exact rstamped_no a n cap xs e s w hl h
end Go.Proofs.Ytghcmlkgpedkkaa
