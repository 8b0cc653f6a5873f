/-
  What a head says, byte by byte: no walk here.
-/
import Derived.Test.YtghcmlkgpedkkaaRPut
namespace Go.Proofs.Ytghcmlkgpedkkaa

/-- where the k-th hidden byte belongs -/
def hpos (k : Nat) : Nat := k / 8 * 512 + k % 8
/-- noughts, but for the first k hidden bytes -/
structure DtK (H : List UInt8) (k : Nat) (Y : List UInt8) : Prop where
  len : Y.length = 4096
  at_ : ∀ i, i < 4096 → Y[i]? = if i % 512 < 8 ∧ i / 512 * 8 + i % 512 < k then H[i / 512 * 8 + i % 512]? else some 0
theorem DtK.start (H : List UInt8) : DtK H 0 (nought 4096) := ⟨nought_length _, fun i hi => by
  rw [if_neg (by omega)]
  unfold nought
  rw [List.getElem?_replicate, if_pos hi]⟩
theorem DtK.put {H Y : List UInt8} {k : Nat} (h : DtK H k Y) (_hk : k < 64) (v : UInt8) (hv : H[k]? = some v) : DtK H (k + 1) (Y.set (hpos k) v) := ⟨by simpa using h.len, fun i hi => by
  unfold hpos
  rw [List.getElem?_set]
  by_cases e : k / 8 * 512 + k % 8 = i
  · rw [if_pos e, if_pos (by rw [h.len]; omega), if_pos (by omega)]
    rw [show i / 512 * 8 + i % 512 = k by omega, hv]
  · rw [if_neg e, h.at_ i hi]
    by_cases q : i % 512 < 8 ∧ i / 512 * 8 + i % 512 < k
    · rw [if_pos q, if_pos (by omega)]
    · rw [if_neg q, if_neg (by omega)]⟩
theorem cat_eight (H : List UInt8) (hl : H.length = 64) : cat (fun x : Fin 8 => (H.drop (x.val * 8)).take 8) 8 = H := by
  have h : ∀ k, k ≤ 8 → cat (fun x : Fin 8 => (H.drop (x.val * 8)).take 8) k = H.take (k * 8) := by
    intro k
    induction k with
    | zero => intro _; simp [cat, firsts]
    | succ k ih =>
      intro hk
      rw [cat_succ _ k (by omega), ih (by omega), show (k + 1) * 8 = k * 8 + 8 by omega, List.take_add]
  rw [h 8 (by omega)]
  exact List.take_of_length_le (by omega)
/-- its hidden bytes are those -/
theorem DtK.hidden {H Y : List UInt8} (h : DtK H 64 Y) (hl : H.length = 64) (M : List UInt8) (hM : M.length = 8) : hdB M Y = H := by
  rw [hdB_cat M Y h.len hM]
  refine Eq.trans ?_ (cat_eight H hl)
  congr 1
  funext x
  refine List.ext_getElem? (fun i => ?_)
  rw [List.getElem?_take, List.getElem?_take]
  by_cases hi : i < 8
  · have hx := x.isLt
    rw [if_pos hi, if_pos hi, sec_get, if_pos (by omega), h.at_ _ (by omega), if_pos (by omega), List.getElem?_drop]
    rw [show (x.val * 512 + i) / 512 * 8 + (x.val * 512 + i) % 512 = x.val * 8 + i by omega]
  · rw [if_neg hi, if_neg hi]
/-- the bytes behind the stamps, gathered one by one -/
def gath (xs : List UInt8) (k : Nat) : List UInt8 := ((List.range k).filter fun i => decide (8 ≤ i % 512)).map fun i => xs.getD i 0
theorem gath_succ (xs : List UInt8) (k : Nat) : gath xs (k + 1) = if 8 ≤ k % 512 then gath xs k ++ [xs.getD k 0] else gath xs k := by
  unfold gath
  rw [List.range_succ, List.filter_append, List.map_append]
  by_cases h : 8 ≤ k % 512
  · simp [h]
  · simp [h]
theorem gath_bound (xs : List UInt8) (k : Nat) : (gath xs k).length ≤ k := by
  unfold gath
  rw [List.length_map]
  refine Nat.le_trans (List.length_filter_le _ _) ?_
  simp
theorem gath_sector (xs : List UInt8) (hl : xs.length = 4096) (s : Nat) (hs : s < 8) : ∀ r, r ≤ 512 → gath xs (s * 512 + r) = gath xs (s * 512) ++ ((sec xs s).take r).drop 8
  | 0, _ => by simp
  | r + 1, h => by
    have ih := gath_sector xs hl s hs r (by omega)
    rw [show s * 512 + (r + 1) = s * 512 + r + 1 by omega, gath_succ, ih]
    have hsl := sec_length xs s hl hs
    have hg : (sec xs s)[r]'(by omega) = xs.getD (s * 512 + r) 0 := by
      have := sec_get xs s r
      rw [if_pos (by omega), List.getElem?_eq_getElem (by omega)] at this
      rw [List.getD_eq_getElem?_getD, ← this]
      rfl
    rw [List.take_succ_eq_append_getElem (show r < (sec xs s).length by omega)]
    by_cases h8 : 8 ≤ (s * 512 + r) % 512
    · rw [if_pos h8, List.drop_append_of_le_length (by rw [List.length_take]; omega), ← List.append_assoc, hg]
    · rw [if_neg h8]
      have l1 : ((sec xs s).take r).drop 8 = [] := List.drop_eq_nil_of_le (by rw [List.length_take]; omega)
      have l2 : ((sec xs s).take r ++ [(sec xs s)[r]'(by omega)]).drop 8 = [] := List.drop_eq_nil_of_le (by rw [List.length_append, List.length_take]; simp; omega)
      rw [l1, l2]
theorem gath_all (xs : List UInt8) (hl : xs.length = 4096) : gath xs 4096 = bodyX xs := by
  have h : ∀ k, k ≤ 8 → gath xs (k * 512) = cat (fun x => (sec xs x.val).drop 8) k := by
    intro k
    induction k with
    | zero => intro _; simp [cat, firsts, gath]
    | succ k ih =>
      intro hk
      have := gath_sector xs hl k (by omega) 512 (Nat.le_refl _)
      rw [cat_succ _ k (by omega), ← ih (by omega), show (k + 1) * 512 = k * 512 + 512 by omega, this, List.take_of_length_le (by rw [sec_length xs k hl (by omega)]; exact Nat.le_refl _)]
  rw [bodyX_cat]
  exact h 8 (by omega)
theorem beNat_append (l r : List UInt8) : beNat (l ++ r) = beNat l * 256 ^ r.length + beNat r := by
  have h : ∀ (n : Nat) (r : List UInt8), r.length = n → beNat (l ++ r) = beNat l * 256 ^ n + beNat r := by
    intro n
    induction n with
    | zero =>
      intro r hr
      obtain rfl := List.eq_nil_of_length_eq_zero hr
      simp [beNat_nil]
    | succ n ih =>
      intro r hr
      obtain ⟨r', c, rfl⟩ : ∃ r' c, r = r' ++ [c] := by
        have hne : r ≠ [] := fun e => by rw [e] at hr; simp at hr
        exact ⟨r.dropLast, r.getLast hne, (List.dropLast_concat_getLast hne).symm⟩
      have hr' : r'.length = n := by simpa using hr
      rw [← List.append_assoc, beNat_snoc, beNat_snoc, ih r' hr', Nat.pow_succ, Nat.add_mul, Nat.mul_assoc]
      omega
  exact h _ r rfl
theorem said_nums (xs : List UInt8) (hl : xs.length = 4096) : beNat (xs.take 3) = saidE xs ∧ beNat ((xs.drop 3).take 5) = saidS xs := by
  have e : xs.take 8 = xs.take 3 ++ (xs.drop 3).take 5 := by
    rw [show 8 = 3 + 5 by omega, List.take_add]
  have l5 : ((xs.drop 3).take 5).length = 5 := by rw [List.length_take, List.length_drop, hl]; omega
  have h5 := beNat_lt ((xs.drop 3).take 5)
  unfold saidE saidS
  rw [e, beNat_append, l5]
  rw [l5] at h5
  have p5 : 256 ^ 5 = 1099511627776 := by decide
  rw [p5] at h5 ⊢
  omega
/-- the group that a block may be the head of -/
structure SaidG (xs : List UInt8) (is : List (Int × List UInt8)) : Prop where
  len : is.length = (saidEs xs).length
  blk : ∀ i (h : i < is.length) (h' : i < (saidEs xs).length), (is[i]).1 = (((saidEs xs)[i]).1 : Int)
  dat : ∀ i (h : i < is.length) (h' : i < (saidEs xs).length), DtK ((saidEs xs)[i]).2 64 (is[i]).2
theorem SaidG.map {xs : List UInt8} {is : List (Int × List UInt8)} (h : SaidG xs is) : is.map (·.1) = (saidEs xs).map fun e => (e.1 : Int) := by
  refine List.ext_getElem (by simp [h.len]) (fun i h1 h2 => ?_)
  simp only [List.getElem_map]
  exact h.blk i (by simpa using h1) (by simpa using h2)
theorem saidEs_len (xs : List UInt8) (hl : xs.length = 4096) : ∀ y ∈ saidEs xs, y.2.length = 64 := by
  intro y hy
  unfold saidEs at hy
  split at hy
  · unfold entsOf at hy
    obtain ⟨i, hi, rfl⟩ := List.mem_map.1 hy
    have hi' : i < cntOf (bodyX xs) := by simpa using hi
    have hbl := bodyX_length _ hl
    unfold entOf
    show ((List.drop (8 + i * 66) _).take 64).length = 64
    rw [List.length_take, List.length_drop, hbl]
    omega
  · cases hy
theorem SaidG.ents {xs : List UInt8} {is : List (Int × List UInt8)} (h : SaidG xs is) (hl : xs.length = 4096) (M : List UInt8) (hM : M.length = 8) : entL M is = saidEs xs := by
  unfold entL
  refine List.ext_getElem (by simp [h.len]) (fun i h1 h2 => ?_)
  have hi : i < is.length := by simpa using h1
  rw [List.getElem_map]
  have hb := h.blk i hi h2
  have hd := (h.dat i hi h2).hidden (saidEs_len xs hl _ (List.getElem_mem h2)) M hM
  rw [hb, hd, Int.toNat_natCast]
theorem SaidG.ok {xs : List UInt8} {is : List (Int × List UInt8)} (h : SaidG xs is) : okGroup (saidE xs) (saidS xs) is ↔ okHead (saidE xs) (saidS xs) ((saidEs xs).map fun e => (e.1 : Int)) := by
  unfold okGroup
  rw [h.map]
  refine ⟨fun q => q.1, fun q => ⟨q, fun i hi => ?_⟩⟩
  obtain ⟨j, hj, rfl⟩ := List.getElem_of_mem hi
  exact (h.dat j hj (by rw [← h.len]; exact hj)).len
theorem SaidG.head {xs : List UInt8} {is : List (Int × List UInt8)} (h : SaidG xs is) (hl : xs.length = 4096) : isHead xs ↔ okGroup (saidE xs) (saidS xs) is ∧ headB (saidE xs) (saidS xs) (entL (mark (saidE xs) (saidS xs)) is) = xs := by
  rw [h.ents hl _ (mark_length _ _), h.ok]
  exact ⟨fun q => ⟨q.2.1, q.2.2.symm⟩, fun q => ⟨hl, q.1, q.2.symm⟩⟩
end Go.Proofs.Ytghcmlkgpedkkaa
