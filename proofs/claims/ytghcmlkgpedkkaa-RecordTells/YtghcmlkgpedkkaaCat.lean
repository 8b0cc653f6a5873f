/-
  Blocks, sector by sector: what the walks through sectors come to. No walk here.
-/
import Derived.Test.YtghcmlkgpedkkaaHead
namespace Go.Proofs.Ytghcmlkgpedkkaa

/-- eight parts, one behind the other -/
def cat (f : Fin 8 → List UInt8) (k : Nat) : List UInt8 := (firsts k).flatMap f
theorem cat_succ (f : Fin 8 → List UInt8) (k : Nat) (h : k < 8) : cat f (k + 1) = cat f k ++ f ⟨k, h⟩ := by unfold cat; rw [firsts_succ k h]; simp
theorem cat_length (f : Fin 8 → List UInt8) (n : Nat) (hf : ∀ x, (f x).length = n) : ∀ k, k ≤ 8 → (cat f k).length = k * n
  | 0, _ => by simp [cat, firsts]
  | k + 1, h => by rw [cat_succ f k h, List.length_append, cat_length f n hf k (by omega), hf, Nat.add_mul, Nat.one_mul]
theorem over_app (A B M : List UInt8) (off : Nat) (h : A.length = off) : over (A ++ B) off M = A ++ (M ++ B.drop M.length) := by
  subst h
  unfold over
  rw [List.take_left, List.drop_append]
  congr 2
  rw [List.drop_eq_nil_of_le (by omega), List.nil_append]
  congr 1
  omega
theorem drop_sec (xs : List UInt8) (k : Nat) : xs.drop (k * 512 + 8) = (sec xs k).drop 8 ++ xs.drop ((k + 1) * 512) := by
  unfold sec
  rw [List.drop_take, List.drop_drop]
  have e : xs.drop ((k + 1) * 512) = (xs.drop (k * 512 + 8)).drop 504 := by rw [List.drop_drop]; exact congrArg (fun i => xs.drop i) (by omega)
  rw [e]
  exact (List.take_append_drop 504 _).symm
theorem sec_app (A B : List UInt8) (k : Nat) (h : A.length = k * 512) : sec (A ++ B) k = B.take 512 := by
  unfold sec
  rw [List.drop_append, List.drop_eq_nil_of_le (by omega), List.nil_append, h, Nat.sub_self, List.drop_zero]

theorem hideTo_firsts (xs M : List UInt8) (hl : xs.length = 4096) (hm : M.length = 8) : ∀ k, k ≤ 8 → hideTo xs M (firsts k) = (cat (fun x => M ++ (sec xs x.val).drop 8) k ++ xs.drop (k * 512), cat (fun x => (sec xs x.val).take 8) k)
  | 0, _ => by simp [hideTo, firsts, cat]
  | k + 1, h => by
    have hA : (cat (fun x => M ++ (sec xs x.val).drop 8) k).length = k * 512 := cat_length _ 512 (fun x => by have := sec_length xs x.val hl x.isLt; simp [this, hm]) k (by omega)
    rw [firsts_succ k h, hideTo_snoc, hideTo_firsts xs M hl hm k (by omega), cat_succ _ k h, cat_succ _ k h]
    unfold hideStep
    dsimp only
    rw [over_app _ _ _ _ hA, sec_app _ _ _ hA, hm, List.drop_drop, drop_sec]
    simp only [List.append_assoc]
    rfl
theorem unhideTo_firsts (xs H : List UInt8) (hl : xs.length = 4096) (hh : H.length = 64) : ∀ k, k ≤ 8 → unhideTo xs H (firsts k) = (cat (fun x => (H.drop (x.val * 8)).take 8 ++ (sec xs x.val).drop 8) k ++ xs.drop (k * 512), k)
  | 0, _ => by simp [unhideTo, firsts, cat]
  | k + 1, h => by
    have hA : (cat (fun x => (H.drop (x.val * 8)).take 8 ++ (sec xs x.val).drop 8) k).length = k * 512 := cat_length _ 512 (fun x => by have := sec_length xs x.val hl x.isLt; have := x.isLt; simp; omega) k (by omega)
    have h8 : ((H.drop (k * 8)).take 8).length = 8 := by simp; omega
    rw [firsts_succ k h, unhideTo_snoc, unhideTo_firsts xs H hl hh k (by omega), cat_succ _ k h]
    unfold unhideStep
    dsimp only
    rw [over_app _ _ _ _ hA, h8, List.drop_drop, drop_sec]
    simp only [List.append_assoc]
theorem putTo_firsts (Z M BB : List UInt8) (hl : Z.length = 4096) (hm : M.length = 8) (hb : BB.length = 4032) : ∀ k, k ≤ 8 → putTo Z M BB (firsts k) = (cat (fun x => M ++ (BB.drop (x.val * 504)).take 504) k ++ Z.drop (k * 512), k)
  | 0, _ => by simp [putTo, firsts, cat]
  | k + 1, h => by
    have hA : (cat (fun x => M ++ (BB.drop (x.val * 504)).take 504) k).length = k * 512 := cat_length _ 512 (fun x => by have := x.isLt; simp [hm]; omega) k (by omega)
    have h5 : ((BB.drop (k * 504)).take 504).length = 504 := by simp; omega
    rw [firsts_succ k h, putTo_snoc, putTo_firsts Z M BB hl hm hb k (by omega), cat_succ _ k h]
    unfold putStep
    dsimp only
    rw [over_app _ _ _ _ hA, ← List.append_assoc, over_app _ _ _ (k * 512 + 8) (by rw [List.length_append, hA, hm]), h5, hm, List.drop_drop, List.drop_drop]
    have e0 : k * 512 + 8 + 504 = (k + 1) * 512 := by omega
    rw [e0]
    simp only [List.append_assoc]

/-- what the calls come to -/
theorem stB_cat (M xs : List UInt8) (hl : xs.length = 4096) (hm : M.length = 8) : stB M xs = cat (fun x => M ++ (sec xs x.val).drop 8) 8 := by
  unfold stB
  rw [← firsts_all, hideTo_firsts xs M hl hm 8 (by omega)]
  simp [List.drop_eq_nil_of_le, hl]
theorem hdB_cat (M xs : List UInt8) (hl : xs.length = 4096) (hm : M.length = 8) : hdB M xs = cat (fun x => (sec xs x.val).take 8) 8 := by
  unfold hdB
  rw [← firsts_all, hideTo_firsts xs M hl hm 8 (by omega)]
theorem unhide_cat (xs H : List UInt8) (hl : xs.length = 4096) (hh : H.length = 64) : (unhideTo xs H (List.finRange 8)).1 = cat (fun x => (H.drop (x.val * 8)).take 8 ++ (sec xs x.val).drop 8) 8 := by
  rw [← firsts_all, unhideTo_firsts xs H hl hh 8 (by omega)]
  simp [List.drop_eq_nil_of_le, hl]
theorem headB_cat (e s : Nat) (es : List (Nat × List UInt8)) (hb : (bodyB es).length = 4032) : headB e s es = cat (fun x => mark e s ++ ((bodyB es).drop (x.val * 504)).take 504) 8 := by
  unfold headB
  rw [← firsts_all, putTo_firsts _ _ _ (nought_length _) (mark_length _ _) hb 8 (by omega)]
  have : (nought 4096).drop (8 * 512) = [] := List.drop_eq_nil_of_le (by rw [nought_length]; omega)
  rw [this, List.append_nil]
theorem bodyX_cat (xs : List UInt8) : bodyX xs = cat (fun x => (sec xs x.val).drop 8) 8 := by unfold bodyX bodyTo cat; rw [firsts_all]

/-- part x of eight parts -/
theorem part_cat (f : Fin 8 → List UInt8) (n : Nat) (hf : ∀ x, (f x).length = n) (x : Fin 8) : ∀ k, k ≤ 8 → x.val < k → ((cat f k).drop (x.val * n)).take n = f x
  | 0, _, h => absurd h (by omega)
  | k + 1, hk, h => by
    have hl := cat_length f n hf k (by omega)
    rw [cat_succ f k hk]
    by_cases hx : x.val < k
    · have h1 : x.val * n + n ≤ k * n := by
        have := Nat.mul_le_mul_right n (show x.val + 1 ≤ k from hx)
        rw [Nat.add_mul, Nat.one_mul] at this
        exact this
      rw [List.drop_append_of_le_length (by omega), List.take_append_of_le_length (by rw [List.length_drop]; omega)]
      exact part_cat f n hf x k (by omega) hx
    · obtain ⟨xv, hxv⟩ := x
      obtain rfl : xv = k := by simp at h hx; omega
      rw [List.drop_append, List.drop_eq_nil_of_le (by rw [hl]; exact Nat.le_refl _), List.nil_append, hl, Nat.sub_self, List.drop_zero, List.take_of_length_le (by rw [hf]; exact Nat.le_refl _)]
theorem sec_cat (f : Fin 8 → List UInt8) (hf : ∀ x, (f x).length = 512) (x : Fin 8) : sec (cat f 8) x.val = f x := part_cat f 512 hf x 8 (by omega) x.isLt
/-- a block is its sectors -/
theorem cat_sec (xs : List UInt8) (hl : xs.length = 4096) : cat (fun x => sec xs x.val) 8 = xs := by
  have : ∀ k, k ≤ 8 → cat (fun x => sec xs x.val) k = xs.take (k * 512) := by
    intro k
    induction k with
    | zero => intro _; simp [cat, firsts]
    | succ k ih =>
      intro h
      rw [cat_succ _ k h, ih (by omega)]
      unfold sec
      have e : (k + 1) * 512 = k * 512 + 512 := by omega
      rw [e, List.take_add]
  rw [this 8 (by omega)]
  exact List.take_of_length_le (by omega)

/-- what is hidden is laid back -/
theorem unhide_hide (M xs : List UInt8) (hl : xs.length = 4096) (hm : M.length = 8) : (unhideTo (stB M xs) (hdB M xs) (List.finRange 8)).1 = xs := by
  have hf : ∀ x : Fin 8, (M ++ (sec xs x.val).drop 8).length = 512 := fun x => by have := sec_length xs x.val hl x.isLt; simp [this, hm]
  have hg : ∀ x : Fin 8, ((sec xs x.val).take 8).length = 8 := fun x => by have := sec_length xs x.val hl x.isLt; simp [this]
  have h1 : (stB M xs).length = 4096 := by rw [stB_cat M xs hl hm, cat_length _ 512 hf 8 (by omega)]
  have h2 : (hdB M xs).length = 64 := by rw [hdB_cat M xs hl hm, cat_length _ 8 hg 8 (by omega)]
  rw [unhide_cat _ _ h1 h2]
  have : (fun x : Fin 8 => ((hdB M xs).drop (x.val * 8)).take 8 ++ (sec (stB M xs) x.val).drop 8) = fun x => sec xs x.val := by
    funext x
    rw [hdB_cat M xs hl hm, part_cat _ 8 hg x 8 (by omega) x.isLt, stB_cat M xs hl hm, sec_cat _ hf x]
    have : (M ++ (sec xs x.val).drop 8).drop 8 = (sec xs x.val).drop 8 := List.drop_left' hm
    rw [this]
    exact List.take_append_drop 8 _
  rw [this]
  exact cat_sec xs hl
end Go.Proofs.Ytghcmlkgpedkkaa
