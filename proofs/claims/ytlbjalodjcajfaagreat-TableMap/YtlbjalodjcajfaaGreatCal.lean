/-
  Of, Get, List and Next.
-/
import Derived.Test.YtlbjalodjcajfaaGreatRdo
namespace Go.Proofs.YtlbjalodjcajfaaGreat
open Go.RowKit Go.Maps
variable {mg : MG}
def valOf (l : List En) (key : ByteArray) : ByteArray := if hasK l key = true then ((l[posOf l key]?).map (·.v)).getD ⟨#[]⟩ else ⟨#[]⟩
def nextOf (l : List En) (key : ByteArray) : Option En := match l[pos l (pAbove key)]? with
  | none => none
  | some e => if e.u = true then some e else none
section
variable {w0 u : World} {x t base n : Nat} {st : Int} {V : List En} {K : List Bx}
theorem HasT.rd {q : Nat} {l : List En} (h : HasT mg w0 u x st V ((q, (flat eE l).toArray, 28) :: K)) : RdE u (some ⟨q, 0, none⟩) l := rdE_flat h.bK.one
/-! ### Of -/
theorem of_nil (w : World) (b m : Int) : Calls Tryz.prog 6 #[.pointer none, .int .i64 b, .int .i64 m] w fun r w' => r = .returned (.tuple #[.pointer none, .int .i64 1]) ∧ w' = w := by
  have c := status_nil w
  go_enter Tryz.func6, Tryz.ntmps6
  go_wp2_with (go_at_call 13; refine c.mono ?_; rintro e wx ⟨rfl, hwx⟩; subst wx)
  go_ret2
  simp
set_option maxRecDepth 100000 in
set_option maxHeartbeats 2000000 in
theorem of_bad (h : HasT mg w0 u x 1 V K) (b m : Int) (hb : m < 1 ∨ 200 < m ∨ b < 0 ∨ (V.length : Int) - m < b) : Calls Tryz.prog 6 #[ptr x, .int .i64 b, .int .i64 m] u fun r w' => r = .returned (.tuple #[.pointer none, .int .i64 2]) ∧ w' = u := by
  have c := h.status
  have cc := h.cells
  have hv := h.len
  generalize V.length = v at *
  clear h
  unfold ptr at *
  by_cases h1 : m < 1
  · go_enter Tryz.func6, Tryz.ntmps6
    go_wp2_with (go_at_call 13; refine c.mono ?_; rintro e wx ⟨rfl, hwx⟩; subst wx)
    go_ret2
    simp
  by_cases h2 : 200 < m
  · go_enter Tryz.func6, Tryz.ntmps6
    go_wp2_with (go_at_call 13; refine c.mono ?_; rintro e wx ⟨rfl, hwx⟩; subst wx)
    go_ret2
    simp
  by_cases h3 : b < 0
  · go_enter Tryz.func6, Tryz.ntmps6
    go_wp2_with (go_at_call 13; refine c.mono ?_; rintro e wx ⟨rfl, hwx⟩; subst wx)
    go_ret2
    simp
  have h4 : (v : Int) - m < b := by omega
  have r1 : IntKind.i64.wrap ((v : Int) - m) = (v : Int) - m := by rw [IntKind.wrap_i64]; omega
  clear hb
  go_enter Tryz.func6, Tryz.ntmps6
  go_wp2_with (first | (go_at_call 13; refine c.mono ?_; rintro e wx ⟨rfl, hwx⟩; subst wx) | (go_at_call 19; refine cc.mono ?_; rintro e wx ⟨rfl, hwx⟩; subst wx))
  go_ret2
  simp
set_option maxRecDepth 100000 in
set_option maxHeartbeats 2000000 in
theorem of_at (h : HasT mg w0 u x 1 V K) (h1 : 1 ≤ n) (h2 : n ≤ 200) (hb : base + n ≤ V.length) : Calls Tryz.prog 6 #[ptr x, .int .i64 (base : Int), .int .i64 (n : Int)] u fun r w' => ∃ t, r = .returned (.tuple #[ptr t, .int .i64 0]) ∧ u.heap.size ≤ t ∧ HasT mg w0 w' x 1 V (tb t x base n :: K) := by
  have c := h.status
  have cc := h.cells
  have hv := h.len
  have H := hid (h.box #[ptr u.heap.size, ptr x, .int .i64 (base : Int), .int .i64 (n : Int)] 65)
  generalize hvl : V.length = v at *
  have HV := hid hvl
  clear hvl
  have g1 : (1 : Int) ≤ (n : Int) := by omega
  have g2 : (n : Int) ≤ 200 := by omega
  have g3 : (base : Int) ≤ (v : Int) - (n : Int) := by omega
  have r1 : IntKind.i64.wrap ((v : Int) - (n : Int)) = (v : Int) - (n : Int) := by rw [IntKind.wrap_i64]; omega
  clear h
  unfold ptr at *
  go_enter Tryz.func6, Tryz.ntmps6
  go_wp2_with (first | (go_at_call 13; refine c.mono ?_; rintro e wx ⟨rfl, hwx⟩; subst wx) | (go_at_call 19; refine cc.mono ?_; rintro e wx ⟨rfl, hwx⟩; subst wx))
  go_ret2
  exact ⟨_, rfl, Nat.le_refl _, H.out⟩
/-! ### Get -/
theorem get_nil {w : World} {p : Option Addr} (h : NoB w p) (key : ByteArray) : Calls Tryz.prog 37 #[.pointer p, .string key] w fun r w' => r = .returned (.tuple #[.string ⟨#[]⟩, .bool false, .int .i64 1]) ∧ w' = w := by
  have c := read_none h
  clear h
  go_enter Tryz.func37, Tryz.ntmps37
  go_wp2_with (go_at_call 20; refine c.mono ?_; rintro e wx ⟨rfl, hwx⟩; subst wx)
  go_ret3
  simp
set_option maxRecDepth 100000 in
set_option maxHeartbeats 2000000 in
theorem get_at (h : HasT mg w0 u x 1 V K) (ht : tb t x base n ∈ K) (h1 : 1 ≤ n) (hb : base + n ≤ V.length) (hr : Rgt (seg V base n) = true) (key : ByteArray) :
    Calls Tryz.prog 37 #[ptr t, .string key] u fun r w' => r = .returned (.tuple #[.string (valOf (seg V base n) key), .bool (hasK (seg V base n) key), .int .i64 0]) ∧ HasT mg w0 w' x 1 V K := by
  have hv := h.len.2
  have cr := tread_at h ht h1 hb
  have hsl := seg_len (n := n) hb
  generalize seg V base n = L at *
  rw [hr] at cr
  simp only [rdv] at cr
  have HV : Hid (valOf L key = if hasK L key = true then ((L[posOf L key]?).map (·.v)).getD ⟨#[]⟩ else ⟨#[]⟩) := rfl
  have HH : Hid (hasK L key = match L[posOf L key]? with | none => false | some e => e.u && decide (e.k = key)) := rfl
  have hfd := fun (w1 : World) (a : Option Addr) (hl : RdE w1 a L) => find_at (c := n) hl hsl (by omega) hr key
  generalize valOf L key = z at *
  generalize posOf L key = p at *
  generalize hasK L key = b at *
  have HFD := hid hfd
  clear h hfd
  unfold ptr at *
  go_enter Tryz.func37, Tryz.ntmps37
  go_wp2_with fail
  refine cr.mono ?_
  rintro e w1 ⟨q, hq, rfl, h1'⟩
  have cf := HFD.out _ _ h1'.rd
  have H1 := hid h1'
  clear cr h1' hq
  go_wp2_with fail
  refine cf.mono ?_
  rintro e w2 ⟨rfl, hb2⟩
  have h2 := H1.out.below hb2
  cases b with
  | false =>
    have hz := HV.out
    rw [if_neg (by simp)] at hz
    subst hz
    have H2 := hid (h2.less (K' := K) (fun y hy => List.mem_cons_of_mem _ hy))
    clear cf hb2 h2 H1
    go_wp2_with fail
    go_ret3
    exact ⟨rfl, H2.out⟩
  | true =>
    have hz := HV.out
    rw [if_pos rfl] at hz
    have hh := HH.out
    have hpl : p < L.length := by
      cases hc : L[p]? with
      | none => rw [hc] at hh; cases hh
      | some e => exact (List.getElem?_eq_some_iff.1 hc).1
    have hx := List.getElem?_eq_getElem hpl
    obtain ⟨e, hee⟩ : ∃ e, e = L[p] := ⟨_, rfl⟩
    rw [← hee] at hx
    rw [hx] at hz
    simp only [Option.map_some, Option.getD_some] at hz
    obtain ⟨b0, o0, he0, hbl, d0, d1, d2⟩ := h2.rd p e hx
    injection he0 with he0
    injection he0 with he1 he2
    subst he1 he2
    rw [← hz] at d2
    have hpn : (p : Int) < (n : Int) := by omega
    have H2 := hid (h2.less (K' := K) (fun y hy => List.mem_cons_of_mem _ hy))
    clear cf hb2 h2 H1 hz hx hee hh hbl d0 d1 HV HH
    simp only [Nat.zero_add] at d2
    go_wp2_with fail
    go_ret3
    exact ⟨rfl, H2.out⟩
/-! ### List -/
theorem list_err {w : World} {p : Option Addr} {er : Int} {Q : World → Prop} (hc : Calls Tryz.prog 20 #[.pointer p] w fun r w' => r = .returned (.tuple #[.slice none 0 0, .int .i64 er]) ∧ Q w') (he : er ≠ 0) : Calls Tryz.prog 9 #[.pointer p] w fun r w' => r = .returned (.tuple #[.slice none 0 0, .int .i64 er]) ∧ Q w' := by
  have he' : (er == 0) = false := by simpa using he
  go_enter Tryz.func9, Tryz.ntmps9
  go_wp2_with fail
  refine hc.mono ?_
  rintro e w1 ⟨rfl, hq⟩
  have HQ := hid hq
  clear hc hq
  go_wp2_with fail
  go_ret2
  exact ⟨rfl, HQ.out⟩
set_option maxRecDepth 100000 in
set_option maxHeartbeats 2000000 in
theorem list_at (h : HasT mg w0 u x 1 V K) (ht : tb t x base n ∈ K) (h1 : 1 ≤ n) (hb : base + n ≤ V.length) (hr : Rgt (seg V base n) = true) :
    Calls Tryz.prog 9 #[ptr t] u fun r w' => ∃ q, u.heap.size ≤ q ∧ r = .returned (.tuple #[.slice (some ⟨q, 0, none⟩) (pos (seg V base n) pNone) n, .int .i64 0]) ∧ HasT mg w0 w' x 1 V ((q, (flat eE (seg V base n)).toArray, 28) :: K) := by
  have hv := h.len.2
  have cr := tread_at h ht h1 hb
  have hsl := seg_len (n := n) hb
  generalize seg V base n = L at *
  rw [hr] at cr
  simp only [rdv] at cr
  have hpl : pos L pNone ≤ n := by rw [← hsl]; exact tw_le (fun e : En => e.u && !pNone e.k) L
  have hfd := fun (w1 : World) (a : Option Addr) (hl : RdE w1 a L) => place36 (c := n) hl hsl (by omega) (rgt_mono hr pNone_up)
  generalize pos L pNone = p at *
  have HFD := hid hfd
  clear h hfd
  unfold ptr at *
  go_enter Tryz.func9, Tryz.ntmps9
  go_wp2_with fail
  refine cr.mono ?_
  rintro e w1 ⟨q, hq, rfl, h1'⟩
  have cf := HFD.out _ _ h1'.rd
  have H1 := hid (And.intro hq h1')
  have hp1 : (p : Int) ≤ (n : Int) := by omega
  clear cr h1' hq
  go_wp2_with fail
  refine cf.mono ?_
  rintro e w2 ⟨rfl, hb2⟩
  have H2 := hid (H1.out.2.below hb2)
  clear cf hb2
  go_wp2_with fail
  go_ret2
  exact ⟨q, H1.out.1, rfl, H2.out⟩
end
end Go.Proofs.YtlbjalodjcajfaaGreat
