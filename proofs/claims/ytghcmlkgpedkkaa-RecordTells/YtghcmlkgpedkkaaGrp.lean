/-
  What is put is got: no walk here.
-/
import Derived.Test.YtghcmlkgpedkkaaCat
namespace Go.Proofs.Ytghcmlkgpedkkaa

/-- parts of 504, one behind the other -/
theorem cat_parts (bb : List UInt8) (hl : bb.length = 4032) : cat (fun x => (bb.drop (x.val * 504)).take 504) 8 = bb := by
  have : ∀ k, k ≤ 8 → cat (fun x => (bb.drop (x.val * 504)).take 504) k = bb.take (k * 504) := by
    intro k
    induction k with
    | zero => intro _; simp [cat, firsts]
    | succ k ih =>
      intro h
      rw [cat_succ _ k h, ih (by omega)]
      have e : (k + 1) * 504 = k * 504 + 504 := by omega
      rw [e, List.take_add]
  rw [this 8 (by omega)]
  exact List.take_of_length_le (by omega)

section
variable {e s : Nat} {es : List (Nat × List UInt8)}
theorem part_len (hb : (bodyB es).length = 4032) (x : Fin 8) : (mark e s ++ ((bodyB es).drop (x.val * 504)).take 504).length = 512 := by
  have := x.isLt
  simp [mark_length, hb]
  omega
theorem sec_head (hb : (bodyB es).length = 4032) (x : Fin 8) : sec (headB e s es) x.val = mark e s ++ ((bodyB es).drop (x.val * 504)).take 504 := by
  rw [headB_cat e s es hb]
  exact sec_cat _ (part_len hb) x
theorem headB_length (hb : (bodyB es).length = 4032) : (headB e s es).length = 4096 := by
  rw [headB_cat e s es hb, cat_length _ 512 (part_len hb) 8 (by omega)]
theorem body_head (hb : (bodyB es).length = 4032) : bodyX (headB e s es) = bodyB es := by
  rw [bodyX_cat]
  have : (fun x : Fin 8 => (sec (headB e s es) x.val).drop 8) = fun x => ((bodyB es).drop (x.val * 504)).take 504 := by
    funext x
    rw [sec_head hb x]
    exact List.drop_left' (mark_length _ _)
  rw [this]
  exact cat_parts _ hb
theorem take8_sec (xs : List UInt8) : xs.take 8 = (sec xs 0).take 8 := by
  unfold sec
  rw [Nat.zero_mul, List.drop_zero, List.take_take]
  rfl
theorem take8_head (hb : (bodyB es).length = 4032) : (headB e s es).take 8 = mark e s := by
  rw [take8_sec, show sec (headB e s es) 0 = _ from sec_head hb (0 : Fin 8)]
  exact List.take_left' (mark_length _ _)
theorem be_mark (he : e ≤ 8388608) (hs : s ≤ 549755813888) : beNat (mark e s) = stampN e s := by
  unfold mark
  rw [beNat_toBE]
  refine Nat.mod_eq_of_lt ?_
  unfold stampN
  omega
theorem said_head (hb : (bodyB es).length = 4032) (he : e ≤ 8388608) (hs : s ≤ 549755813888) : saidE (headB e s es) = e ∧ saidS (headB e s es) = s := by
  unfold saidE saidS
  rw [take8_head hb, be_mark he hs]
  unfold stampN
  omega
theorem cnt_body (hn : es.length ≤ 32) : cntOf (bodyB es) = es.length := by
  unfold cntOf bodyB
  rw [List.append_assoc, List.take_left' (toBE_length _ _), beNat_toBE]
  omega
theorem entsB_split (h : ∀ x ∈ es, x.2.length = 64) (i : Nat) (hi : i < es.length) : ∃ r, entsB es = entsB (es.take i) ++ (toBE 2 es[i].1 ++ (es[i].2 ++ r)) ∧ (entsB (es.take i)).length = i * 66 := by
  refine ⟨entsB (es.drop (i + 1)), ?_, ?_⟩
  · have e1 : es = es.take i ++ es[i] :: es.drop (i + 1) := by simp
    have : entsB es = entsB (es.take i ++ es[i] :: es.drop (i + 1)) := by rw [← e1]
    rw [this]
    unfold entsB
    rw [List.flatMap_append, List.flatMap_cons]
    simp only [List.append_assoc]
  · rw [entsB_length _ (fun x hx => h x (List.mem_of_mem_take hx))]
    rw [List.length_take, Nat.min_eq_left (by omega)]
theorem ent_body (h : ∀ x ∈ es, x.2.length = 64) (hb : ∀ x ∈ es, x.1 ≤ 511) (i : Nat) (hi : i < es.length) : entOf (bodyB es) i = es[i] := by
  obtain ⟨r, e1, e2⟩ := entsB_split h i hi
  have hm := List.getElem_mem hi
  have d6 : (bodyB es).drop (6 + i * 66) = toBE 2 es[i].1 ++ (es[i].2 ++ (r ++ nought (4026 - es.length * 66))) := by
    unfold bodyB restB
    rw [← List.drop_drop, List.drop_left' (by rw [List.length_append, toBE_length, toBE_length]), e1]
    simp only [List.append_assoc]
    exact List.drop_left' e2
  have d8 : (bodyB es).drop (8 + i * 66) = es[i].2 ++ (r ++ nought (4026 - es.length * 66)) := by
    rw [show 8 + i * 66 = (6 + i * 66) + 2 by omega, ← List.drop_drop, d6]
    exact List.drop_left' (toBE_length _ _)
  unfold entOf
  rw [d6, d8, List.take_left' (toBE_length _ _), List.take_left' (h _ hm), beNat_toBE, Nat.mod_eq_of_lt (by have := hb _ hm; omega)]
theorem ents_body (h : ∀ x ∈ es, x.2.length = 64) (hb : ∀ x ∈ es, x.1 ≤ 511) : entsOf (bodyB es) es.length = es := by
  refine List.ext_getElem (entsOf_length _ _) (fun i h1 h2 => ?_)
  have : (entsOf (bodyB es) es.length)[i] = entOf (bodyB es) i := by simp [entsOf]
  rw [this]
  exact ent_body h hb i h2
/-- what a head says -/
theorem said_es (h : ∀ x ∈ es, x.2.length = 64) (hb : ∀ x ∈ es, x.1 ≤ 511) (hn : es.length ≤ 32) : saidEs (headB e s es) = es := by
  unfold saidEs
  rw [body_head (bodyB_length es h hn), cnt_body hn, if_pos hn]
  exact ents_body h hb
theorem head_is (h : ∀ x ∈ es, x.2.length = 64) (hb : ∀ x ∈ es, x.1 ≤ 511) (hn : es.length ≤ 32) (hok : okHead e s (es.map fun x => (x.1 : Int))) : isHead (headB e s es) := by
  have hl := bodyB_length es h hn
  have hst := (okStamp_iff _ _).1 hok.1
  obtain ⟨q1, q2⟩ := said_head (e := e) (s := s) hl (by omega) (by omega)
  unfold isHead
  rw [q1, q2, said_es h hb hn]
  exact ⟨headB_length hl, hok, rfl⟩
end

/-- a group's entries, its blocks -/
def entL (M : List UInt8) (is : List (Int × List UInt8)) : List (Nat × List UInt8) := is.map fun i => (i.1.toNat, hdB M i.2)
def putL (e s : Nat) (is : List (Int × List UInt8)) : List (List UInt8) := headB e s (entL (mark e s) is) :: is.map fun i => stB (mark e s) i.2

section
variable {e s : Nat} {is : List (Int × List UInt8)}
theorem hdB_length (M xs : List UInt8) (hl : xs.length = 4096) (hm : M.length = 8) : (hdB M xs).length = 64 := by
  rw [hdB_cat M xs hl hm, cat_length _ 8 (fun x => by have := sec_length xs x.val hl x.isLt; simp [this]) 8 (by omega)]
theorem stB_length (M xs : List UInt8) (hl : xs.length = 4096) (hm : M.length = 8) : (stB M xs).length = 4096 := by
  rw [stB_cat M xs hl hm, cat_length _ 512 (fun x => by have := sec_length xs x.val hl x.isLt; simp [this, hm]) 8 (by omega)]
theorem okTo_each {bs : List Int} (h : okTo bs bs.length) : ∀ b ∈ bs, 0 ≤ b ∧ b ≤ 511 := fun b hb => by
  obtain ⟨j, hj, rfl⟩ := List.getElem_of_mem hb
  exact (h j hj hj).1
theorem entL_len (hok : okGroup e s is) : ∀ x ∈ entL (mark e s) is, x.2.length = 64 := fun x hx => by
  obtain ⟨i, hi, rfl⟩ := List.mem_map.1 hx
  exact hdB_length _ _ (hok.2 i hi) (mark_length _ _)
theorem entL_blk (hok : okGroup e s is) : ∀ x ∈ entL (mark e s) is, x.1 ≤ 511 := fun x hx => by
  obtain ⟨i, hi, rfl⟩ := List.mem_map.1 hx
  have := okTo_each hok.1.2.2 i.1 (List.mem_map.2 ⟨i, hi, rfl⟩)
  show i.1.toNat ≤ 511
  omega
theorem entL_map (hok : okGroup e s is) (M : List UInt8) : ((entL M is).map fun x => (x.1 : Int)) = is.map (·.1) := by
  unfold entL
  rw [List.map_map]
  refine List.map_congr_left (fun i hi => ?_)
  have := okTo_each hok.1.2.2 i.1 (List.mem_map.2 ⟨i, hi, rfl⟩)
  show ((i.1.toNat : Nat) : Int) = i.1
  omega
theorem entL_length (M : List UInt8) : (entL M is).length = is.length := by simp [entL]
theorem is_length (hok : okGroup e s is) : 1 ≤ is.length ∧ is.length ≤ 32 := by have := hok.1.2.1; simpa using this
theorem put_head (hok : okGroup e s is) : isHead (headB e s (entL (mark e s) is)) :=
  head_is (entL_len hok) (entL_blk hok) (by rw [entL_length]; exact (is_length hok).2) (by rw [entL_map hok]; exact hok.1)
theorem put_said (hok : okGroup e s is) : saidE (headB e s (entL (mark e s) is)) = e ∧ saidS (headB e s (entL (mark e s) is)) = s ∧ saidEs (headB e s (entL (mark e s) is)) = entL (mark e s) is := by
  have hn : (entL (mark e s) is).length ≤ 32 := by rw [entL_length]; exact (is_length hok).2
  have hst := (okStamp_iff _ _).1 hok.1.1
  obtain ⟨q1, q2⟩ := said_head (e := e) (s := s) (bodyB_length _ (entL_len hok) hn) (by omega) (by omega)
  exact ⟨q1, q2, said_es (entL_len hok) (entL_blk hok) hn⟩
theorem sec_st (M xs : List UInt8) (hl : xs.length = 4096) (hm : M.length = 8) (x : Fin 8) : sec (stB M xs) x.val = M ++ (sec xs x.val).drop 8 := by
  rw [stB_cat M xs hl hm]
  exact sec_cat _ (fun x => by have := sec_length xs x.val hl x.isLt; simp [this, hm]) x
theorem st_stamped (hok : okGroup e s is) (i : Int × List UInt8) (hi : i ∈ is) : stampedB (stB (mark e s) i.2) (e : Int) (s : Int) = true := by
  unfold stampedB
  have hl := hok.2 i hi
  have h1 := stB_length (mark e s) i.2 hl (mark_length _ _)
  have h2 : okStamp (e : Int) (s : Int) = true := hok.1.1
  rw [h2]
  simp only [h1, decide_true, Bool.true_and]
  unfold allMarked
  rw [List.all_eq_true]
  intro x _
  rw [sec_st _ _ hl (mark_length _ _) x, List.take_left' (mark_length _ _)]
  simp
/-- what is put is a group -/
theorem put_grp (hok : okGroup e s is) : isGrp (putL e s is) := by
  obtain ⟨q1, q2, q3⟩ := put_said hok
  unfold isGrp
  have e0 : (putL e s is)[0]?.getD [] = headB e s (entL (mark e s) is) := rfl
  rw [e0, q1, q2, q3, entL_length]
  refine ⟨by simp [putL], put_head hok, by simp [putL], fun j hj => ?_⟩
  have : (putL e s is)[j + 1]?.getD [] = stB (mark e s) (is[j]).2 := by simp [putL, hj]
  rw [this]
  exact st_stamped hok _ (List.getElem_mem hj)
/-- and that group is got -/
theorem put_imgs (hok : okGroup e s is) : imgsTo (putL e s is) (entL (mark e s) is) is.length = is := by
  refine List.ext_getElem (by simp [imgsTo]) (fun j h1 h2 => ?_)
  have e9 : (imgsTo (putL e s is) (entL (mark e s) is) is.length)[j] = imgOf (putL e s is) (entL (mark e s) is) j := by simp [imgsTo]
  rw [e9]
  unfold imgOf
  have hm := List.getElem_mem h2
  have e1 : (putL e s is)[j + 1]?.getD [] = stB (mark e s) (is[j]).2 := by simp [putL, h2]
  have e2 : (entL (mark e s) is)[j]?.getD (0, []) = ((is[j]).1.toNat, hdB (mark e s) (is[j]).2) := by simp [entL, h2]
  rw [e1, e2]
  dsimp only
  rw [unhide_hide _ _ (hok.2 _ hm) (mark_length _ _)]
  have := okTo_each hok.1.2.2 (is[j]).1 (List.mem_map.2 ⟨_, hm, rfl⟩)
  refine Prod.ext ?_ rfl
  show (((is[j]).1.toNat : Nat) : Int) = (is[j]).1
  omega
end
end Go.Proofs.Ytghcmlkgpedkkaa
