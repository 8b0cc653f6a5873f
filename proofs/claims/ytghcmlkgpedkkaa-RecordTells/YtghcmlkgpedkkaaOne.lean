/-
  The chapter's group: what its head begins with. No walk here.
-/
import Derived.Test.YtghcmlkgpedkkaaLow
namespace Go.Proofs.Ytghcmlkgpedkkaa

theorem one_ok (f : List UInt8) (hf : f.length = 4096) : okGroup ((1 : Nat) : Int) ((1 : Nat) : Int) [(40, f)] := by
  refine ⟨⟨by decide, by simp, ?_⟩, fun i hi => ?_⟩
  · intro j hj _
    have : j = 0 := by simp at hj; omega
    subst this
    simp
  · simp at hi
    subst hi
    exact hf
def oneH (f : List UInt8) : List UInt8 := headB 1 1 (entL (mark 1 1) [(40, f)])
theorem one_put (f : List UInt8) : putL 1 1 [(40, f)] = [oneH f, stB (mark 1 1) f] := rfl
theorem mark11 : mark 1 1 = [0, 0, 1, 0, 0, 0, 0, 1] := by decide
theorem one_body (f : List UInt8) (hf : f.length = 4096) : (bodyB (entL (mark 1 1) [(40, f)])).length = 4032 :=
  bodyB_length _ (entL_len (e := 1) (s := 1) (one_ok f hf)) (by simp [entL])
theorem one_len (f : List UInt8) (hf : f.length = 4096) : (oneH f).length = 4096 := headB_length (one_body f hf)
theorem one_start (f : List UInt8) (hf : f.length = 4096) : (oneH f).take 512 = mark 1 1 ++ (bodyB (entL (mark 1 1) [(40, f)])).take 504 := by
  have h := sec_head (e := 1) (s := 1) (one_body f hf) (0 : Fin 8)
  have e : sec (headB 1 1 (entL (mark 1 1) [(40, f)])) (0 : Fin 8).val = (oneH f).take 512 := by
    unfold sec oneH
    simp
  rw [e] at h
  rw [h]
  simp
theorem one_ten (f : List UInt8) (hf : f.length = 4096) : (oneH f).take 10 = [0, 0, 1, 0, 0, 0, 0, 1, 0, 1] := by
  have h : (oneH f).take 10 = ((oneH f).take 512).take 10 := by rw [List.take_take]; rfl
  rw [h, one_start f hf, mark11]
  have : bodyB (entL (mark 1 1) [(40, f)]) = [0, 1] ++ (toBE 4 (crc 0 (restB (entL (mark 1 1) [(40, f)]))) ++ restB (entL (mark 1 1) [(40, f)])) := by
    have e1 : (entL (mark 1 1) [(40, f)]).length = 1 := by simp [entL]
    have e2 : toBE 2 1 = [0, 1] := by decide
    unfold bodyB
    rw [List.append_assoc, e1, e2]
  rw [mark11] at this
  rw [this]
  rfl
theorem one_four (f : List UInt8) (hf : f.length = 4096) (h97 : f.take 2 = [97, 97]) : ((oneH f).drop 14).take 4 = [0, 40, 97, 97] := by
  have h : ((oneH f).drop 14).take 4 = (((oneH f).take 512).drop 14).take 4 := by
    rw [List.drop_take, List.take_take]
    rfl
  obtain ⟨H, hH⟩ : ∃ H, H = hdB (mark 1 1) f := ⟨_, rfl⟩
  have hH2 : H.take 2 = [97, 97] := by
    rw [hH, hdB_cat _ f hf (mark_length _ _)]
    have p := part_cat (fun x : Fin 8 => (sec f x.val).take 8) 8 (fun x => by have := sec_length f x.val hf x.isLt; simp [this]) 0 8 (by omega) (by decide)
    have q : (cat (fun x : Fin 8 => (sec f x.val).take 8) 8).take 2 = (((cat (fun x : Fin 8 => (sec f x.val).take 8) 8).drop ((0 : Fin 8).val * 8)).take 8).take 2 := by
      rw [List.take_take]
      simp
    rw [q, p, List.take_take]
    have : (sec f (0 : Fin 8).val).take 2 = f.take 2 := by
      unfold sec
      simp [List.take_take]
    have m2 : min 2 8 = 2 := rfl
    rw [m2, this, h97]
  rw [h, one_start f hf]
  have hb : (bodyB (entL (mark 1 1) [(40, f)])).drop 6 = [0, 40] ++ (H ++ nought (4026 - 66)) := by
    unfold bodyB restB
    rw [List.drop_left' (by rw [List.length_append, toBE_length, toBE_length])]
    rw [hH]
    have e2 : toBE 2 40 = [0, 40] := by decide
    simp [entL, entsB, e2]
  have hl := one_body f hf
  rw [List.drop_append, List.drop_eq_nil_of_le (by rw [mark_length]; omega), List.nil_append, mark_length, List.drop_take, List.take_take, hb]
  have hHl : H = [97, 97] ++ H.drop 2 := by
    have := (List.take_append_drop 2 H).symm
    rw [hH2] at this
    exact this
  rw [hHl]
  rfl
end Go.Proofs.Ytghcmlkgpedkkaa
