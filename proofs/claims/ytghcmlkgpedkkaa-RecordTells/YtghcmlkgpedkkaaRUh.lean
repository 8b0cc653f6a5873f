/-
  A group put together again, byte by byte: no walk here.
-/
import Derived.Test.YtghcmlkgpedkkaaRd
namespace Go.Proofs.Ytghcmlkgpedkkaa

/-- the hidden bytes, and of the block's own ones the first t -/
structure UhK (H b : List UInt8) (t : Nat) (Y : List UInt8) : Prop where
  len : Y.length = 4096
  at_ : ∀ i, i < 4096 → Y[i]? = if i % 512 < 8 then H[i / 512 * 8 + i % 512]? else if i < t then b[i]? else some 0
theorem UhK.start {H b Y : List UInt8} (h : DtK H 64 Y) : UhK H b 0 Y := ⟨h.len, fun i hi => by
  rw [h.at_ i hi]
  by_cases q : i % 512 < 8
  · rw [if_pos ⟨q, by omega⟩, if_pos q]
  · rw [if_neg (fun e => q e.1), if_neg q, if_neg (by omega)]⟩
theorem UhK.skip {H b Y : List UInt8} {t : Nat} (h : UhK H b t Y) (ht : t % 512 < 8) : UhK H b (t + 1) Y := ⟨h.len, fun i hi => by
  rw [h.at_ i hi]
  by_cases q : i % 512 < 8
  · rw [if_pos q, if_pos q]
  · rw [if_neg q, if_neg q]
    by_cases e : i < t
    · rw [if_pos e, if_pos (by omega)]
    · have : i ≠ t := fun e => by subst e; exact q ht
      rw [if_neg e, if_neg (by omega)]⟩
theorem UhK.put {H b Y : List UInt8} {t : Nat} (h : UhK H b t Y) (ht : t < 4096) (h8 : ¬ t % 512 < 8) (v : UInt8) (hv : b[t]? = some v) : UhK H b (t + 1) (Y.set t v) := ⟨by simpa using h.len, fun i hi => by
  rw [List.getElem?_set]
  by_cases e : t = i
  · subst e
    rw [if_pos rfl, if_pos (by rw [h.len]; exact ht), if_neg h8, if_pos (by omega), hv]
  · rw [if_neg e, h.at_ i hi]
    by_cases q : i % 512 < 8
    · rw [if_pos q, if_pos q]
    · rw [if_neg q, if_neg q]
      by_cases e2 : i < t
      · rw [if_pos e2, if_pos (by omega)]
      · rw [if_neg e2, if_neg (by omega)]⟩
theorem cat_get (f : Fin 8 → List UInt8) (hf : ∀ x, (f x).length = 512) (i : Nat) (hi : i < 4096) : (cat f 8)[i]? = (f ⟨i / 512, by omega⟩)[i % 512]? := by
  have h := sec_cat f hf ⟨i / 512, by omega⟩
  have h2 := sec_get (cat f 8) (i / 512) (i % 512)
  rw [if_pos (by omega), show i / 512 * 512 + i % 512 = i by omega] at h2
  rw [← h2]
  have h' : sec (cat f 8) (i / 512) = f ⟨i / 512, by omega⟩ := h
  rw [h']
theorem UhK.done {H b Y : List UInt8} (h : UhK H b 4096 Y) (hH : H.length = 64) (hb : b.length = 4096) : Y = (unhideTo b H (List.finRange 8)).1 := by
  rw [unhide_cat b H hb hH]
  have hf : ∀ x : Fin 8, ((H.drop (x.val * 8)).take 8 ++ (sec b x.val).drop 8).length = 512 := fun x => by
    have hx := x.isLt
    have := sec_length b x.val hb x.isLt
    rw [List.length_append, List.length_take, List.length_drop, List.length_drop, this, hH]
    omega
  refine List.ext_getElem? (fun i => ?_)
  by_cases hi : i < 4096
  · rw [h.at_ i hi, cat_get _ hf i hi]
    have l8 : ((H.drop (i / 512 * 8)).take 8).length = 8 := by rw [List.length_take, List.length_drop, hH]; omega
    by_cases q : i % 512 < 8
    · rw [if_pos q, List.getElem?_append_left (by rw [l8]; exact q), List.getElem?_take, if_pos q, List.getElem?_drop]
    · rw [if_neg q, if_pos hi, List.getElem?_append_right (by rw [l8]; omega)]
      show b[i]? = ((sec b (i / 512)).drop 8)[i % 512 - ((H.drop (i / 512 * 8)).take 8).length]?
      rw [l8, List.getElem?_drop, sec_get, if_pos (by omega), show i / 512 * 512 + (8 + (i % 512 - 8)) = i by omega]
  · have lc := cat_length (fun x : Fin 8 => (H.drop (x.val * 8)).take 8 ++ (sec b x.val).drop 8) 512 hf 8 (by omega)
    rw [List.getElem?_eq_none (by rw [h.len]; omega), List.getElem?_eq_none (by rw [lc]; omega)]
/-- its hidden bytes are still those -/
theorem UhK.hidden {H b Y : List UInt8} {t : Nat} (h : UhK H b t Y) (hl : H.length = 64) (M : List UInt8) (hM : M.length = 8) : hdB M Y = H := by
  rw [hdB_cat M Y h.len hM]
  refine Eq.trans ?_ (cat_eight H hl)
  congr 1
  funext x
  refine List.ext_getElem? (fun i => ?_)
  rw [List.getElem?_take, List.getElem?_take]
  by_cases hi : i < 8
  · have hx := x.isLt
    rw [if_pos hi, if_pos hi, sec_get, if_pos (by omega), h.at_ _ (by omega), if_pos (by omega), List.getElem?_drop]
    rw [show (x.val * 512 + i) / 512 * 8 + (x.val * 512 + i) % 512 = x.val * 8 + i by omega]
  · rw [if_neg hi, if_neg hi]
/-- stamped again, it is the block, if that bore the stamp -/
theorem UhK.stamped {H b Y M : List UInt8} (h : UhK H b 4096 Y) (hb : b.length = 4096) (hM : M.length = 8) (hs : allMarked b M = true) : stB M Y = b := by
  rw [stB_cat M Y h.len hM]
  have hf : ∀ x : Fin 8, (M ++ (sec Y x.val).drop 8).length = 512 := fun x => by
    have := sec_length Y x.val h.len x.isLt
    rw [List.length_append, List.length_drop, this, hM]
  refine List.ext_getElem? (fun i => ?_)
  by_cases hi : i < 4096
  · rw [cat_get _ hf i hi]
    by_cases q : i % 512 < 8
    · rw [List.getElem?_append_left (by rw [hM]; exact q)]
      unfold allMarked at hs
      rw [List.all_eq_true] at hs
      have h1 := hs ⟨i / 512, by omega⟩ (List.mem_finRange _)
      have h2 : (sec b (i / 512)).take 8 = M := by simpa using h1
      have h3 := congrArg (fun l : List UInt8 => l[i % 512]?) h2
      rw [List.getElem?_take, if_pos q, sec_get, if_pos (by omega), show i / 512 * 512 + i % 512 = i by omega] at h3
      exact h3.symm
    · rw [List.getElem?_append_right (by rw [hM]; omega), hM, List.getElem?_drop, sec_get, if_pos (by omega)]
      show Y[i / 512 * 512 + (8 + (i % 512 - 8))]? = b[i]?
      rw [show i / 512 * 512 + (8 + (i % 512 - 8)) = i by omega, h.at_ i hi, if_neg q, if_pos hi]
  · have lc := cat_length (fun x : Fin 8 => M ++ (sec Y x.val).drop 8) 512 hf 8 (by omega)
    rw [List.getElem?_eq_none (by rw [lc]; omega), List.getElem?_eq_none (by omega)]
/-- the group put together -/
structure UhG (ls : List (List UInt8)) (is : List (Int × List UInt8)) : Prop where
  len : is.length = (saidEs (ls[0]?.getD [])).length
  blk : ∀ i (h : i < is.length) (h' : i < (saidEs (ls[0]?.getD [])).length), (is[i]).1 = (((saidEs (ls[0]?.getD []))[i]).1 : Int)
  dat : ∀ i (h : i < is.length) (h' : i < (saidEs (ls[0]?.getD [])).length), UhK ((saidEs (ls[0]?.getD []))[i]).2 (ls[i + 1]?.getD []) 4096 (is[i]).2
section
variable {ls : List (List UInt8)} {is : List (Int × List UInt8)} (h : UhG ls is) (hh : isHead (ls[0]?.getD [])) (hn : ls.length = (saidEs (ls[0]?.getD [])).length + 1) (h4 : ∀ j, j < (saidEs (ls[0]?.getD [])).length → (ls[j + 1]?.getD []).length = 4096)
include h
theorem UhG.map : is.map (·.1) = (saidEs (ls[0]?.getD [])).map fun e => (e.1 : Int) := by
  refine List.ext_getElem (by simp [h.len]) (fun i h1 h2 => ?_)
  simp only [List.getElem_map]
  exact h.blk i (by simpa using h1) (by simpa using h2)
include hh
theorem UhG.ok : okGroup (saidE (ls[0]?.getD [])) (saidS (ls[0]?.getD [])) is := by
  refine ⟨by rw [h.map]; exact hh.2.1, fun i hi => ?_⟩
  obtain ⟨j, hj, rfl⟩ := List.getElem_of_mem hi
  exact (h.dat j hj (by rw [← h.len]; exact hj)).len
theorem UhG.ents (M : List UInt8) (hM : M.length = 8) : entL M is = saidEs (ls[0]?.getD []) := by
  unfold entL
  refine List.ext_getElem (by simp [h.len]) (fun i h1 h2 => ?_)
  have hi : i < is.length := by simpa using h1
  rw [List.getElem_map, h.blk i hi h2, (h.dat i hi h2).hidden (saidEs_len _ hh.1 _ (List.getElem_mem h2)) M hM, Int.toNat_natCast]
include hn h4
theorem UhG.grp : isGrp ls ↔ putL (saidE (ls[0]?.getD [])) (saidS (ls[0]?.getD [])) is = ls := by
  have h0 : 0 < ls.length := by omega
  constructor
  · intro hg
    refine List.ext_getElem (by rw [putL_length, h.len, hn]) (fun i h1 h2 => ?_)
    cases i with
    | zero =>
      have e0 : (putL (saidE (ls[0]?.getD [])) (saidS (ls[0]?.getD [])) is)[0] = headB (saidE (ls[0]?.getD [])) (saidS (ls[0]?.getD [])) (entL (mark (saidE (ls[0]?.getD [])) (saidS (ls[0]?.getD []))) is) := rfl
      rw [e0, h.ents hh _ (mark_length _ _), ← hh.2.2]
      simp [h0]
    | succ j =>
      have hj : j < is.length := by rw [putL_length] at h1; omega
      have hj' : j < (saidEs (ls[0]?.getD [])).length := by rw [← h.len]; exact hj
      have e1 : (putL (saidE (ls[0]?.getD [])) (saidS (ls[0]?.getD [])) is)[j + 1] = stB (mark (saidE (ls[0]?.getD [])) (saidS (ls[0]?.getD []))) (is[j]).2 := by simp [putL]
      have e2 : ls[j + 1]?.getD [] = ls[j + 1] := by simp [h2]
      have hs := hg.2.2.2 j hj'
      unfold stampedB at hs
      simp only [Bool.and_eq_true] at hs
      have hst := h.dat j hj hj'
      have hs3 := hs.2.2
      rw [Int.toNat_natCast, Int.toNat_natCast] at hs3
      rw [e1, hst.stamped (h4 j hj') (mark_length _ _) hs3, e2]
  · intro e
    have := put_grp (h.ok hh)
    rwa [e] at this
omit hn in
theorem UhG.imgs : imgsTo ls (saidEs (ls[0]?.getD [])) (saidEs (ls[0]?.getD [])).length = is := by
  refine List.ext_getElem (by simp [imgsTo, h.len]) (fun j h1 h2 => ?_)
  have hj' : j < (saidEs (ls[0]?.getD [])).length := by rw [← h.len]; exact h2
  have e9 : (imgsTo ls (saidEs (ls[0]?.getD [])) (saidEs (ls[0]?.getD [])).length)[j] = imgOf ls (saidEs (ls[0]?.getD [])) j := by simp [imgsTo]
  rw [e9]
  unfold imgOf
  have e2 : (saidEs (ls[0]?.getD []))[j]?.getD (0, []) = (saidEs (ls[0]?.getD []))[j] := by simp [hj']
  rw [e2, ← (h.dat j h2 hj').done (saidEs_len _ hh.1 _ (List.getElem_mem hj')) (h4 j hj'), ← h.blk j h2 hj']
end
end Go.Proofs.Ytghcmlkgpedkkaa
