/-
  A disk in plain lists: what its calls do. No program is named here.
-/
namespace Go.Proofs.Ytagnmmapnpcijaa

/-- xs upon l, from off on -/
def putAt {α : Type} (l : List α) (off : Nat) (xs : List α) : List α := l.take off ++ (xs ++ l.drop (off + xs.length))
theorem putAt_length {α : Type} (l : List α) (off : Nat) (xs : List α) (h : off + xs.length ≤ l.length) : (putAt l off xs).length = l.length := by
  simp [putAt]; omega
theorem putAt_get {α : Type} (l : List α) (off : Nat) (xs : List α) (h : off + xs.length ≤ l.length) (i : Nat) : (putAt l off xs)[i]? = if off ≤ i ∧ i < off + xs.length then xs[i - off]? else l[i]? := by
  unfold putAt
  have hlo : (l.take off).length = off := by simp; omega
  by_cases h1 : i < off
  · rw [List.getElem?_append_left (by omega), if_neg (by omega), List.getElem?_take, if_pos h1]
  · rw [List.getElem?_append_right (by omega), hlo]
    by_cases h2 : i < off + xs.length
    · rw [if_pos ⟨by omega, h2⟩, List.getElem?_append_left (by omega)]
    · rw [if_neg (by omega), List.getElem?_append_right (by omega), List.getElem?_drop]
      congr 1
      omega

def bit (m s : Nat) : Bool := m / 2 ^ s % 2 == 1
/-- sector s of a block's bytes -/
def sec (data : List UInt8) (s : Nat) : List UInt8 := (data.drop (s * 512)).take 512
theorem sec_length (data : List UInt8) (s : Nat) (hd : data.length = 4096) (hs : s < 8) : (sec data s).length = 512 := by simp [sec]; omega
/-- the first k sectors of data upon block b, those of which the bit is set -/
def carryN (d : List UInt8) (b : Nat) (data : List UInt8) (m : Nat) : Nat → List UInt8
  | 0 => d
  | k + 1 => if bit m k then putAt (carryN d b data m k) (b * 4096 + k * 512) (sec data k) else carryN d b data m k
def carry (d : List UInt8) (b : Nat) (data : List UInt8) (m : Nat) : List UInt8 := carryN d b data m 8

theorem carryN_length (d : List UInt8) (b : Nat) (data : List UInt8) (m : Nat) (hb : b * 4096 + 4096 ≤ d.length) (hd : data.length = 4096) : ∀ k, k ≤ 8 → (carryN d b data m k).length = d.length
  | 0, _ => rfl
  | k + 1, hk => by
    have ih := carryN_length d b data m hb hd k (by omega)
    unfold carryN
    split
    · rw [putAt_length _ _ _ (by rw [ih, sec_length data k hd (by omega)]; omega), ih]
    · exact ih
theorem carry_length (d : List UInt8) (b : Nat) (data : List UInt8) (m : Nat) (hb : b * 4096 + 4096 ≤ d.length) (hd : data.length = 4096) : (carry d b data m).length = d.length := carryN_length d b data m hb hd 8 (by omega)

theorem carryN_get (d : List UInt8) (b : Nat) (data : List UInt8) (m : Nat) (hb : b * 4096 + 4096 ≤ d.length) (hd : data.length = 4096) (i : Nat) : ∀ k, k ≤ 8 →
    (carryN d b data m k)[i]? = if b * 4096 ≤ i ∧ i < b * 4096 + k * 512 ∧ bit m ((i - b * 4096) / 512) = true then data[i - b * 4096]? else d[i]?
  | 0, _ => by
    unfold carryN
    rw [if_neg (by omega)]
  | k + 1, hk => by
    have ih := carryN_get d b data m hb hd i k (by omega)
    have hl := carryN_length d b data m hb hd k (by omega)
    have hs := sec_length data k hd (by omega)
    unfold carryN
    by_cases hin : b * 4096 + k * 512 ≤ i ∧ i < b * 4096 + k * 512 + 512
    · have c1 : b * 4096 ≤ i := Nat.le_trans (Nat.le_add_right (b * 4096) (k * 512)) hin.1
      have hq : (i - b * 4096) / 512 = k := by omega
      have c2 : i < b * 4096 + (k + 1) * 512 := by omega
      have c4 : b * 4096 + k * 512 + 512 ≤ d.length := by clear hq c2 ih hl hs hd hin c1; omega
      have c5 : i - (b * 4096 + k * 512) < 512 := by omega
      have c6 : k * 512 + (i - (b * 4096 + k * 512)) = i - b * 4096 := by omega
      have c7 : ¬ i < b * 4096 + k * 512 := by omega
      split
      · rename_i hbit
        have c3 : bit m ((i - b * 4096) / 512) = true := by rw [hq]; exact hbit
        have hcond : b * 4096 ≤ i ∧ i < b * 4096 + (k + 1) * 512 ∧ bit m ((i - b * 4096) / 512) = true := ⟨c1, c2, c3⟩
        rw [putAt_get _ _ _ (by rw [hl, hs]; exact c4), hs, if_pos hin, if_pos hcond]
        unfold sec
        rw [List.getElem?_take, if_pos c5, List.getElem?_drop, c6]
      · rename_i hbit
        rw [ih, if_neg (fun h => c7 h.2.1), if_neg (by rw [hq]; rintro ⟨_, _, h⟩; exact hbit h)]
    · have e : (if b * 4096 ≤ i ∧ i < b * 4096 + k * 512 ∧ bit m ((i - b * 4096) / 512) = true then data[i - b * 4096]? else d[i]?) = (if b * 4096 ≤ i ∧ i < b * 4096 + (k + 1) * 512 ∧ bit m ((i - b * 4096) / 512) = true then data[i - b * 4096]? else d[i]?) := by
        by_cases h1 : b * 4096 ≤ i ∧ i < b * 4096 + k * 512
        · by_cases hbt : bit m ((i - b * 4096) / 512) = true
          · rw [if_pos ⟨h1.1, h1.2, hbt⟩, if_pos ⟨h1.1, by omega, hbt⟩]
          · rw [if_neg (fun h => hbt h.2.2), if_neg (fun h => hbt h.2.2)]
        · rw [if_neg (fun h => h1 ⟨h.1, h.2.1⟩), if_neg (fun h => by have h2 := h.1; have h3 := h.2.1; omega)]
      split
      · rw [putAt_get _ _ _ (by rw [hl, hs]; omega), hs, if_neg (by omega), ih, e]
      · rw [ih, e]
theorem carry_get (d : List UInt8) (b : Nat) (data : List UInt8) (m : Nat) (hb : b * 4096 + 4096 ≤ d.length) (hd : data.length = 4096) (i : Nat) :
    (carry d b data m)[i]? = if b * 4096 ≤ i ∧ i < b * 4096 + 4096 ∧ bit m ((i - b * 4096) / 512) = true then data[i - b * 4096]? else d[i]? := carryN_get d b data m hb hd i 8 (by omega)

/-- block n of an image -/
def blk (d : List UInt8) (n : Nat) : List UInt8 := (d.drop (n * 4096)).take 4096
theorem blk_get (d : List UInt8) (n i : Nat) : (blk d n)[i]? = if i < 4096 then d[n * 4096 + i]? else none := by
  unfold blk
  rw [List.getElem?_take]
  split
  · rw [List.getElem?_drop]
  · rfl
theorem blk_length (d : List UInt8) (n : Nat) (h : n * 4096 + 4096 ≤ d.length) : (blk d n).length = 4096 := by simp [blk]; omega

theorem bit_all (s : Nat) (h : s < 8) : bit 255 s = true := by
  match s, h with
  | 0, _ => rfl
  | 1, _ => rfl
  | 2, _ => rfl
  | 3, _ => rfl
  | 4, _ => rfl
  | 5, _ => rfl
  | 6, _ => rfl
  | 7, _ => rfl

structure Fuse where
  set : Bool
  left : Nat
deriving DecidableEq, Inhabited
def Fuse.then (f : Fuse) : Fuse := if f.set then (if 0 < f.left then ⟨true, f.left - 1⟩ else ⟨false, 0⟩) else f
def Fuse.stops (f : Fuse) : Bool := f.set && decide (f.left = 0)

structure DS where
  nb : Nat
  dur : List UInt8
  uf : List (Nat × List UInt8)
  n : Nat
  gone : Bool
  arm : Fuse
  fail : Fuse

/-- an operation goes by: the disk then -/
def DS.oper (D : DS) : DS := if D.gone then D else { D with gone := D.arm.stops, arm := D.arm.then, fail := D.fail.then }
/-- why it may not be done -/
def DS.operE (D : DS) : Nat := if D.gone then 6 else if D.arm.stops then 6 else if D.fail.stops then 4 else 0

/-- the first k unflushed writes, carried out -/
def carryTo (uf : List (Nat × List UInt8)) (d : List UInt8) : Nat → List UInt8
  | 0 => d
  | k + 1 => match uf[k]? with
    | some w => carry (carryTo uf d k) w.1 w.2 255
    | none => carryTo uf d k
def keeps (keep : List Bool) (k : Nat) : Bool := keep[k]?.getD false
def crashTo (keep : List Bool) (torn : Int) (m : Nat) (uf : List (Nat × List UInt8)) (d : List UInt8) : Nat → List UInt8
  | 0 => d
  | k + 1 => match uf[k]? with
    | some w => if (k : Int) = torn then carry (crashTo keep torn m uf d k) w.1 w.2 m else if keeps keep k then carry (crashTo keep torn m uf d k) w.1 w.2 255 else crashTo keep torn m uf d k
    | none => crashTo keep torn m uf d k
/-- of the first k writes the last one of block n -/
def lastOf (uf : List (Nat × List UInt8)) (n : Nat) : Nat → Option (List UInt8)
  | 0 => none
  | k + 1 => match uf[k]? with
    | some w => if w.1 = n then some w.2 else lastOf uf n k
    | none => lastOf uf n k
def DS.stand (D : DS) (n : Nat) : List UInt8 := (lastOf D.uf n D.uf.length).getD (blk D.dur n)
def DS.image (D : DS) : List UInt8 := carryTo D.uf D.dur D.uf.length
def DS.crash (D : DS) (keep : List Bool) (torn : Int) (m : Nat) : DS := { D with dur := crashTo keep torn m D.uf D.dur D.uf.length, uf := [], gone := false, arm := ⟨false, 0⟩, fail := ⟨false, 0⟩ }
def DS.flush (D : DS) : DS := if D.operE = 0 then { D.oper with dur := D.image, uf := [] } else D.oper
def DS.has (D : DS) (n : Int) : Bool := decide (0 ≤ n) && decide (n < D.nb)
def DS.write (D : DS) (n : Int) (b : List UInt8) : DS := if D.has n && decide (b.length = 4096) then (if D.operE = 0 then { D.oper with uf := D.uf ++ [(n.toNat, b)], n := D.n + 1 } else D.oper) else D
def DS.writeE (D : DS) (n : Int) (b : List UInt8) : Nat := if D.has n then (if b.length = 4096 then D.operE else 2) else 70
def DS.readE (D : DS) (n : Int) : Nat := if D.has n then (if D.gone then 6 else 0) else 70
def DS.new (nb : Nat) (d : List UInt8) : DS := ⟨nb, d, [], 0, false, ⟨false, 0⟩, ⟨false, 0⟩⟩
def DS.copy (D : DS) : DS := { D with n := 0 }

/-- what holds of every disk -/
structure DS.Ok (D : DS) : Prop where
  len : D.dur.length = D.nb * 4096
  lo : 1 ≤ D.nb
  hi : D.nb ≤ 512
  each : ∀ p ∈ D.uf, p.1 < D.nb ∧ p.2.length = 4096
  arm : D.arm.left < 9223372036854775808
  fail : D.fail.left < 9223372036854775808

theorem DS.Ok.at {D : DS} (h : D.Ok) (k : Nat) (hk : k < D.uf.length) : D.uf[k].1 < D.nb ∧ D.uf[k].2.length = 4096 := h.each _ (List.getElem_mem hk)
theorem DS.Ok.room {D : DS} (h : D.Ok) {n : Nat} (hn : n < D.nb) : n * 4096 + 4096 ≤ D.dur.length := by rw [h.len]; omega

theorem carryTo_length (D : DS) (h : D.Ok) (d : List UInt8) (hd : d.length = D.dur.length) : ∀ k, (carryTo D.uf d k).length = d.length
  | 0 => rfl
  | k + 1 => by
    have ih := carryTo_length D h d hd k
    unfold carryTo
    cases e : D.uf[k]? with
    | none => exact ih
    | some w =>
      obtain ⟨hk, rfl⟩ := List.getElem?_eq_some_iff.1 e
      obtain ⟨h1, h2⟩ := h.at k hk
      show (carry _ _ _ _).length = _
      rw [carry_length _ _ _ _ (by rw [ih, hd]; exact h.room h1) h2, ih]
theorem crashTo_length (D : DS) (h : D.Ok) (keep : List Bool) (torn : Int) (m : Nat) : ∀ k, (crashTo keep torn m D.uf D.dur k).length = D.dur.length
  | 0 => rfl
  | k + 1 => by
    have ih := crashTo_length D h keep torn m k
    unfold crashTo
    cases e : D.uf[k]? with
    | none => exact ih
    | some w =>
      obtain ⟨hk, rfl⟩ := List.getElem?_eq_some_iff.1 e
      obtain ⟨h1, h2⟩ := h.at k hk
      show (if _ then carry _ _ _ _ else if _ then carry _ _ _ _ else _).length = _
      split
      · rw [carry_length _ _ _ _ (by rw [ih]; exact h.room h1) h2, ih]
      · split
        · rw [carry_length _ _ _ _ (by rw [ih]; exact h.room h1) h2, ih]
        · exact ih
theorem carryTo_succ (uf : List (Nat × List UInt8)) (d : List UInt8) (k : Nat) (hk : k < uf.length) : carryTo uf d (k + 1) = carry (carryTo uf d k) uf[k].1 uf[k].2 255 := by
  rw [carryTo, List.getElem?_eq_getElem hk]
theorem crashTo_succ (keep : List Bool) (torn : Int) (m : Nat) (uf : List (Nat × List UInt8)) (d : List UInt8) (k : Nat) (hk : k < uf.length) : crashTo keep torn m uf d (k + 1) = if (k : Int) = torn then carry (crashTo keep torn m uf d k) uf[k].1 uf[k].2 m else if keeps keep k then carry (crashTo keep torn m uf d k) uf[k].1 uf[k].2 255 else crashTo keep torn m uf d k := by
  rw [crashTo, List.getElem?_eq_getElem hk]
theorem lastOf_succ (uf : List (Nat × List UInt8)) (n k : Nat) (hk : k < uf.length) : lastOf uf n (k + 1) = if uf[k].1 = n then some uf[k].2 else lastOf uf n k := by
  rw [lastOf, List.getElem?_eq_getElem hk]

theorem Fuse.then_lt (f : Fuse) (h : f.left < 9223372036854775808) : f.then.left < 9223372036854775808 := by
  unfold Fuse.then
  split
  · split
    · show f.left - 1 < _; omega
    · show 0 < _; omega
  · exact h
theorem DS.Ok.oper {D : DS} (h : D.Ok) : D.oper.Ok := by
  unfold DS.oper
  split
  · exact h
  · exact ⟨h.len, h.lo, h.hi, h.each, Fuse.then_lt _ h.arm, Fuse.then_lt _ h.fail⟩
theorem DS.oper_nb (D : DS) : D.oper.nb = D.nb := by unfold DS.oper; split <;> rfl
theorem DS.oper_dur (D : DS) : D.oper.dur = D.dur := by unfold DS.oper; split <;> rfl
theorem DS.oper_uf (D : DS) : D.oper.uf = D.uf := by unfold DS.oper; split <;> rfl
theorem DS.oper_n (D : DS) : D.oper.n = D.n := by unfold DS.oper; split <;> rfl
theorem DS.Ok.flush {D : DS} (h : D.Ok) : D.flush.Ok := by
  unfold DS.flush
  split
  · have ho := h.oper
    refine ⟨?_, ho.lo, ho.hi, by simp, ho.arm, ho.fail⟩
    show (carryTo _ _ _).length = _
    rw [carryTo_length D h D.dur rfl, h.len, DS.oper_nb]
  · exact h.oper
theorem DS.Ok.crash {D : DS} (h : D.Ok) (keep : List Bool) (torn : Int) (m : Nat) : (D.crash keep torn m).Ok :=
  ⟨by show (crashTo _ _ _ _ _ _).length = _; rw [crashTo_length D h, h.len]; rfl, h.lo, h.hi, by simp [DS.crash], by simp [DS.crash], by simp [DS.crash]⟩
theorem DS.Ok.write {D : DS} (h : D.Ok) (n : Int) (b : List UInt8) : (D.write n b).Ok := by
  unfold DS.write
  split
  · rename_i hc
    simp only [DS.has, Bool.and_eq_true, decide_eq_true_eq] at hc
    split
    · have ho := h.oper
      refine ⟨ho.len, ho.lo, ho.hi, ?_, ho.arm, ho.fail⟩
      intro p hp
      show p.1 < D.oper.nb ∧ _
      rw [DS.oper_nb]
      rcases List.mem_append.1 hp with hp | hp
      · exact h.each p hp
      · simp at hp
        subst hp
        exact ⟨by omega, hc.2⟩
    · exact h.oper
  · exact h
theorem DS.Ok.new {nb : Nat} {d : List UInt8} (h : d.length = nb * 4096) (h1 : 1 ≤ nb) (h2 : nb ≤ 512) : (DS.new nb d).Ok := ⟨h, h1, h2, by simp [DS.new], by simp [DS.new], by simp [DS.new]⟩
theorem DS.Ok.copy {D : DS} (h : D.Ok) : D.copy.Ok := ⟨h.len, h.lo, h.hi, h.each, h.arm, h.fail⟩
end Go.Proofs.Ytagnmmapnpcijaa
