/-
  Put.
-/
import Derived.Test.YtlbjalodjcajfaaGreatIns
namespace Go.Proofs.YtlbjalodjcajfaaGreat
open Go.RowKit Go.Maps
variable {mg : MG}
section
variable {w0 u u' : World} {x t base n : Nat} {st : Int} {V : List En} {K : List Bx}
/-- a block of one's own is another one -/
theorem HasT.turn {g : Nat} {cs cs' : Array Value} {ty : TypeId} (h : HasT mg w0 u x st V ((g, cs, ty) :: K)) (hc : Chg (fun k => k = g) u u') (hb : Box u' g cs' ty) (hq : ∀ y ∈ K, y.1 ≠ g) (hB : w0.heap.size ≤ g) : HasT mg w0 u' x st V ((g, cs', ty) :: K) := by
  obtain ⟨s, n, C, S, Fs, h⟩ := h
  obtain ⟨k1, k2, k3, k4⟩ := h.kn _ (List.mem_cons_self ..)
  simp only at k1 k2 k3 k4
  exact ⟨s, n, C, S, Fs,
    { h with
      bx := h.bx.chg hc (Ne.symm k1)
      bm := h.bm.chg hc (Ne.symm k2)
      bg := h.bg.chg hc (Ne.symm k3)
      hs := h.hs.stay hc.size (fun y hy => hc.block y (h.hs.fB y hy).2 (fun e => k4 (e ▸ hy)))
      bK := fun y hy => by
        rcases List.mem_cons.1 hy with rfl | hy
        · exact hb
        · exact (h.bK y (List.mem_cons_of_mem _ hy)).chg hc (hq y hy)
      kn := fun y hy => by
        rcases List.mem_cons.1 hy with rfl | hy
        · exact ⟨k1, k2, k3, k4⟩
        · exact h.kn y (List.mem_cons_of_mem _ hy)
      ko := fun y hy => ⟨(hc.block y.1 (obj_lt (h.ko y hy).1) (fun e => map_ne (h.ko y hy).1 (h.ko y hy).2.1 (h.bK _ (List.mem_cons_self ..)) e)).trans (h.ko y hy).1, (h.ko y hy).2⟩
      bel := h.bel.trans (hc.below h.bel.size (fun k e => by rw [e]; exact hB)) }⟩
/-- a new block is one's own -/
theorem HasT.adopt {g : Nat} {cs : Array Value} {ty : TypeId} (h : HasT mg w0 u x st V K) (hb : Below u.heap.size u u') (hx : Box u' g cs ty) (hg : u.heap.size ≤ g) : HasT mg w0 u' x st V ((g, cs, ty) :: K) := by
  obtain ⟨s, n, C, S, Fs, h⟩ := h
  have h' := h.below hb
  exact ⟨s, n, C, S, Fs,
    { h' with
      bK := fun y hy => by
        rcases List.mem_cons.1 hy with rfl | hy
        · exact hx
        · exact h'.bK y hy
      kn := fun y hy => by
        rcases List.mem_cons.1 hy with rfl | hy
        · have a1 := h.bx.lt
          have a2 := h.bm.lt
          have a3 := h.bg.lt
          exact ⟨by simp only; omega, by simp only; omega, by simp only; omega, fun e => by have := (h.hs.fB _ e).2; simp only at this; omega⟩
        · exact h'.kn y hy }⟩
end
/-- one more, the last one gone -/
def insL (l : List En) (n p : Nat) (e : En) : List En := l.take p ++ ([e] ++ (l.take (n - 1)).drop p)
theorem insL_len {l : List En} {n p : Nat} (hl : l.length = n) (hp : p < n) (e : En) : (insL l n p e).length = n := by unfold insL; simp; omega
theorem insert_n {w : World} {g cap i n vb : Nat} {l : List En} {e : En} (h : Lay eE 28 w g cap l) (hl : l.length = n) (hi : i < n) (hc : n ≤ 1024) (hx : cap ≤ 9223372036854775807) (hv : Box w vb (flat eE [e]).toArray 28) (hne : vb ≠ g) :
    Calls Tryz.prog 23 #[.slice (some ⟨g, 0, none⟩) (n - 1) cap, .int .i64 (i : Int), .slice (some ⟨vb, 0, none⟩) 1 1] w fun r w' => r = .returned (.slice (some ⟨g, 0, none⟩) n cap) ∧ Lay eE 28 w' g cap (insL l n i e) ∧ Chg (fun k => k = g) w w' := by
  obtain ⟨m, rfl⟩ : ∃ m, n = i + 1 + m := ⟨n - i - 1, by omega⟩
  have := insert_at (m := m) h hl hc hx hv hne
  rw [show i + 1 + m - 1 = i + m by omega, show i + 1 + m = i + m + 1 by omega]
  unfold insL
  rw [show i + m + 1 - 1 = i + m by omega]
  exact this
theorem posOf_le (l : List En) (key : ByteArray) : posOf l key ≤ l.length := tw_le (fun e : En => e.u && !(pFrom key) e.k) l
theorem pos_last {l : List En} {n : Nat} (hl : l.length = n) (h1 : 1 ≤ n) {key : ByteArray} {e : En} (he : l[n - 1]? = some e) (hu : e.u = false) : posOf l key < n := by
  have hle := posOf_le l key
  apply Classical.byContradiction
  intro hn
  have := tw_lt (l := l) (f := fun e : En => e.u && !(pFrom key) e.k) (i := n - 1) (by have : posOf l key = ((l.takeWhile (fun e : En => e.u && !(pFrom key) e.k)).length) := rfl; omega) he
  simp [hu] at this
theorem hasK_lt {l : List En} {key : ByteArray} (h : hasK l key = true) : posOf l key < l.length := by
  unfold hasK at h
  cases hc : l[posOf l key]? with
  | none => rw [hc] at h; cases h
  | some e => exact (List.getElem?_eq_some_iff.1 hc).1
section
variable {w0 u u' : World} {x t base n : Nat} {st : Int} {V : List En} {K : List Bx}
set_option maxRecDepth 100000 in
set_option maxHeartbeats 4000000 in
theorem put_full (h : HasT mg w0 u x 1 V K) (ht : tb t x base n ∈ K) (h1 : 1 ≤ n) (hb : base + n ≤ V.length) (hr : Rgt (seg V base n) = true) (key val : ByteArray) (hk : hasK (seg V base n) key = false) {z : En} (hz : (seg V base n)[n - 1]? = some z) (hzu : z.u = true) :
    Calls Tryz.prog 7 #[ptr t, .string key, .string val] u fun r w' => r = .returned (.int .i64 5) ∧ HasT mg w0 w' x 1 V K := by
  have hv := h.len.2
  have cr := tread_at h ht h1 hb
  have hsl := seg_len (n := n) hb
  generalize seg V base n = L at *
  rw [hr] at cr
  simp only [rdv] at cr
  have HFD : Hid (∀ (w1 : World) (a : Option Addr), RdE w1 a L → Calls Tryz.prog 21 #[.slice a n n, .string key] w1 fun r w' => r = .returned (.tuple #[.int .i64 (posOf L key : Int), .bool false]) ∧ Below w1.heap.size w1 w') := fun w1 a hl => by
    have := find_at (c := n) hl hsl (by omega) hr key
    rwa [hk] at this
  have HZ := hid (And.intro hsl hz)
  clear h hk hr hz
  unfold ptr at *
  go_enter Tryz.func7, Tryz.ntmps7
  go_wp2_with fail
  refine cr.mono ?_
  rintro e w1 ⟨q, hq, rfl, h3⟩
  have hT : tb t x base n ∈ ((q, (flat eE L).toArray, 28) :: K) := List.mem_cons_of_mem _ ht
  have d3 : w1.cell? ⟨t, 3, none⟩ = some (.int .i64 (n : Int)) := (h3.bK _ hT).cell 3
  have rw1 : IntKind.i64.wrap ((n : Int) - 1) = (n : Int) - 1 := by rw [IntKind.wrap_i64]; omega
  have HT3 : Hid (∀ o : Obj, (w1.alloc o).drew.cell? ⟨t, 3, none⟩ = some (.int .i64 (n : Int))) := fun o => ((h3.bK _ hT).alloc o).cell 3
  have hL := HZ.out.1
  have h4 := (h3.box #[.bool true, .string key, .string val] 28).below (u' := (w1.alloc (.cells #[.bool true, .string key, .string val] 28)).drew) ⟨rfl, rfl, rfl, Nat.le_refl _, fun _ _ => rfl⟩
  have rd4 : RdE (w1.alloc (.cells #[.bool true, .string key, .string val] 28)).drew (some ⟨q, 0, none⟩) L := rdE_flat (h4.bK _ (List.mem_cons_of_mem _ (List.mem_cons_self ..)))
  have cf := HFD.out _ _ rd4
  have H4 := hid h4
  have HQ := hid (And.intro hq (h3.low))
  clear cr h3 h4 hq rd4
  go_upto_region 4 with fail
  go_region_held3 (fun v => v.cell? ⟨t, 3, none⟩ = some (.int .i64 (n : Int))) (first | exact HT3.out _ | go_keep) (fail)
  clear HT3 d3
  go_wp2_with fail
  refine cf.mono ?_
  rintro e w5 ⟨rfl, hb5⟩
  have h5 := H4.out.below hb5
  have rd5 : RdE w5 (some ⟨q, 0, none⟩) L := rdE_flat (h5.bK _ (List.mem_cons_of_mem _ (List.mem_cons_self ..)))
  have cc := clone_at (c := n) rd5 hL h1 (by omega)
  have H5 := hid h5
  clear cf hb5 h5 H4 rd5
  go_wp2_with fail
  refine cc.mono ?_
  rintro e w6 ⟨g, cap, rfl, hg, hlay, hb6⟩
  have h6 := H5.out.below hb6
  have hrow : Box w6 q (flat eE L).toArray 28 := h6.bK _ (List.mem_cons_of_mem _ (List.mem_cons_self ..))
  have z0 : w6.cell? ⟨q, (n - 1) * 3, none⟩ = some (.bool true) := by
    have := (flat_get eE HZ.out.2).1
    rw [hrow.cell]
    simpa [eE, hzu] using this
  have r2 : ((n : Int) - 1).toNat = n - 1 := by omega
  have r3 : (0 : Int) ≤ (n : Int) - 1 := by omega
  have H6 := hid (h6.less (K' := K) (fun y hy => List.mem_cons_of_mem _ (List.mem_cons_of_mem _ hy)))
  clear cc hb6 h6 H5 hlay hg hrow HZ HFD
  go_wp2_with fail
  go_ret
  exact ⟨rfl, H6.out⟩
end
end Go.Proofs.YtlbjalodjcajfaaGreat
