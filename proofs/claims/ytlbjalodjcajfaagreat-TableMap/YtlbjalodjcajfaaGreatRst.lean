/-
  Between two transactions.
-/
import Derived.Test.YtlbjalodjcajfaaGreatTmp
namespace Go.Proofs.YtlbjalodjcajfaaGreat
open Go.RowKit Go.Maps Go.Sort
structure Rst (w0 u : World) (m g wb : Nat) (k : Int) (C : List Cl) (P : List Pr) (N : Nat) : Prop where
  mb : MB u m g 70 k C
  om : w0.heap.size ≤ m
  og : w0.heap.size ≤ g
  wB : w0.heap.size ≤ wb
  k0 : 0 ≤ k
  hC : ∀ c ∈ C, c.own = 0 ∧ 0 ≤ c.ver ∧ c.ver ≤ k
  sg : seg (C.map (·.e)) 5 60 = tbl 60 P
  asc : Asc P
  le : P.length ≤ 60
  want : IsW u wb N P
  bel : Below w0.heap.size w0 u
section
variable {w0 u u' : World} {x t m g wb N : Nat} {k : Int} {C : List Cl} {P : List Pr} {K : List Bx}
theorem Rst.begin (h : Rst w0 u m g wb k C P N) : Calls Tryz.prog 5 #[ptr m, .int .i64 1] u fun r w' => ∃ x, r = .returned (.tuple #[ptr x, .int .i64 0]) ∧ ∃ o, HasT (m, g, k, [(wb, o)]) w0 w' x 1 (C.map (·.e)) [] ∧ w'.heap[wb]? = some o ∧ u.heap[wb]? = some o := by
  obtain ⟨es, cl, he⟩ := h.want.obj
  refine (begin_at (w0 := w0) (K := []) (O := [(wb, .map es cl)]) h.mb.bm h.mb.bg h.om h.og h.mb.hl (by decide) (by decide) h.k0 h.hC (fun y hy => by cases hy) (fun y hy => by cases hy) h.bel (fun y hy => by
    rw [List.mem_singleton] at hy
    subst hy
    exact ⟨he, es, cl, rfl⟩)).mono (fun r w' hh => ?_)
  obtain ⟨x, e, s, Fs, hT⟩ := hh
  exact ⟨x, e, .map es cl, ⟨_, _, _, _, _, hT⟩, (hT.ko _ (List.mem_singleton_self _)).1, he⟩
theorem bound_len {l : List Int} (hn : l.Nodup) (h : ∀ i ∈ l, ∃ j : Nat, i = (j : Int) ∧ j < 70) : l.length ≤ 70 := by
  have := nodup_sub l ((List.range 70).map (fun (i : Nat) => (i : Int))) hn (fun y hy => by
    obtain ⟨j, rfl, hj⟩ := h y hy
    exact List.mem_map.2 ⟨j, List.mem_range.2 hj, rfl⟩)
  simpa using this
/-- an end, and what is there behind it -/
theorem TW.ending (h : TW w0 u m g k wb x t 5 60 70 P P N K) (hk : 0 ≤ k) (hk2 : k < 1000) : ∃ s C S Fs O, Run O w0 u x m g s 70 k k C S K Fs 0 ∧ okAll k S (ends S) ⟨k, 0, false, C⟩ ∧ (ends S).length ≤ 250 ∧ ∀ u', Run O w0 u' x m g s 70 k k C S K Fs (ends S).length → ∃ k' C', Rst w0 u' m g wb k' C' P N ∧ k' ≤ k + 1 := by
  obtain ⟨o, V, hP, hw, hB⟩ := h
  obtain ⟨s, n, C, S, Fs, hT⟩ := hP.h
  have hn : n = 70 := by rw [← hT.vl, hP.vl]
  subst hn
  dsimp only at hT
  have hs := hT.hs
  obtain ⟨rb, wb', v, X, hA⟩ := hs
  have nW := hA.wr.gd.nd
  have nR := hA.rd.gd.nd
  have hW : ∀ i ∈ kys S.W, ∃ (j : Nat) (e : En), i = (j : Int) ∧ j < C.length ∧ gt S.W i = some e := fun i hi => by
    have h1 := (gt_some_iff S.W i).1 hi
    obtain ⟨j, e1, hj⟩ := hT.hW i h1
    obtain ⟨e, he⟩ := Option.isSome_iff_exists.1 h1
    exact ⟨j, e, e1, by rw [hT.hl]; exact hj, he⟩
  have hR : ∀ i ∈ kys S.R, ∃ (j : Nat) (c : Cl), i = (j : Int) ∧ C[j]? = some c ∧ gt S.R i = some c.ver := fun i hi => by
    obtain ⟨z, hz⟩ := Option.isSome_iff_exists.1 ((gt_some_iff S.R i).1 hi)
    obtain ⟨j, c, e1, hc, e2⟩ := hT.hR i z hz
    exact ⟨j, c, e1, hc, by rw [hz, e2]⟩
  obtain ⟨f1, k', ver', pub', C', f2, f3, f4⟩ := fin_ok (b := k) (S := S) (C := C) (k := k) hk (by omega) (fun c hc => ⟨(hT.hC c hc).1, (hT.hC c hc).2.2⟩) nW hW (fun i hi => by
    cases hg : gt S.W i with
    | none => rfl
    | some e => exact absurd ((gt_some_iff S.W i).2 (by rw [hg]; rfl)) hi) hR srt_mem (fun l hl => srt_nodup hl)
  have lW : S.W.length ≤ 70 := by
    have := bound_len nW (fun i hi => by
      obtain ⟨j, e, h1, h2, _⟩ := hW i hi
      exact ⟨j, h1, by rw [hT.hl] at h2; exact h2⟩)
    rwa [kys_len] at this
  have lR : S.R.length ≤ 70 := by
    have := bound_len nR (fun i hi => by
      obtain ⟨j, c, h1, h2, _⟩ := hR i hi
      exact ⟨j, h1, by rw [← hT.hl]; exact (List.getElem?_eq_some_iff.1 h2).1⟩)
    rwa [kys_len] at this
  have hlen : (ends S).length ≤ 250 := by
    unfold ends
    split
    · simp
    · simp only [List.length_append, List.length_cons, List.length_map, srt_len, kys_len]
      omega
  refine ⟨s, C, S, Fs, _, .inl ⟨rfl, V, hT⟩, f1, hlen, fun u' hr => ?_⟩
  have hpos := ends_pos S
  rcases hr with ⟨e, _⟩ | ⟨_, e, _⟩ | ⟨_, Q, hE⟩
  · omega
  · omega
  · rw [f2] at hE
    have hko := (hE.ko _ (List.mem_singleton_self _)).1
    refine ⟨k', C', ⟨hE.mb, hE.om, hE.og, hB, by omega, fun c hc => ?_, ?_, hP.asc, hP.le, hw.stay (hko.trans hP.map.symm), hE.bel⟩, by omega⟩
    · obtain ⟨j, hj, rfl⟩ := List.getElem_of_mem hc
      have hj2 : j < C.length := by rw [← f4.1]; exact hj
      have h1 := f4.2 j _ (List.getElem?_eq_getElem hj2)
      have h2 := hT.hC _ (List.getElem_mem hj2)
      rw [List.getElem?_eq_getElem hj] at h1
      injection h1 with h1
      rw [h1]
      dsimp only
      split
      · exact ⟨rfl, by dsimp only; omega, by dsimp only; omega⟩
      · exact ⟨h2.1, h2.2.1, by omega⟩
    · rw [← hP.sg]
      congr 1
      apply List.ext_getElem?
      intro j
      by_cases hj : j < 70
      · have hj2 : j < C.length := by rw [hT.hl]; exact hj
        rw [hT.hV j hj, List.getElem?_map, f4.2 j _ (List.getElem?_eq_getElem hj2)]
        unfold vw
        rw [List.getElem?_eq_getElem hj2]
        dsimp only
        cases gt S.W (j : Int) <;> rfl
      · rw [List.getElem?_eq_none (by rw [List.length_map, f4.1, hT.hl]; omega), List.getElem?_eq_none (by rw [hT.vl]; omega)]
end
end Go.Proofs.YtlbjalodjcajfaaGreat
