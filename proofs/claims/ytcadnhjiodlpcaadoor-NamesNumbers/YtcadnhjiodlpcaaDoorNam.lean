/-
  Lists of texts in memory; whether a text is a name.
-/
import Derived.Test.YtcadnhjiodlpcaaDoorPln
import Derived.Test.YtcadnhjiodlpcaaDoorRows
import Derived.WalkKit
import Derived.WalkSpells
import Derived.WalkLawsBesides
import Derived.ProofKit
import Derived.Deep.QuietTactic
import Derived.BigQuiet
import Derived.Maps.AppendAt
import Derived.Laws.MakeOwn
namespace Go.Proofs.YtcadnhjiodlpcaaDoor
open Go.RowKit
theorem hid {p : Prop} (h : p) : Hid p := h
def bs (x : Tx) : ByteArray := ⟨x.toArray⟩
theorem bs_data (s : ByteArray) : bs s.data.toList = s := by cases s; rfl
theorem bs_size (x : Tx) : (bs x).size = x.length := by simp [bs, ByteArray.size]
theorem bs_inj {x y : Tx} (h : bs x = bs y) : x = y := by
  have := congrArg (fun b => b.data.toList) h
  simpa [bs] using this
/-- Texts in memory. -/
def Ts (w : World) (a : Option Addr) (xs : List Tx) : Prop :=
  0 < xs.length → ∃ b o, a = some ⟨b, o, none⟩ ∧ b < w.heap.size ∧ ∀ j (h : j < xs.length), w.cell? ⟨b, o + j, none⟩ = some (.string (bs xs[j]))
theorem Ts.nil (w : World) (a : Option Addr) : Ts w a [] := fun h => absurd h (by simp)
theorem Ts.below {B : Nat} {w w' : World} {a : Option Addr} {xs : List Tx} (h : Ts w a xs) (hb : Below B w w') (hB : w.heap.size ≤ B) : Ts w' a xs := fun hp => by
  obtain ⟨b, o, e, hl, hc⟩ := h hp
  exact ⟨b, o, e, Nat.lt_of_lt_of_le hl hb.size, fun j hj => (hb.cell (p := ⟨b, o + j, none⟩) (Nat.lt_of_lt_of_le hl hB)).trans (hc j hj)⟩
theorem Ts.take {w : World} {a : Option Addr} {xs : List Tx} (h : Ts w a xs) (n : Nat) : Ts w a (xs.take n) := fun hp => by
  rw [List.length_take] at hp
  obtain ⟨b, o, e, hl, hc⟩ := h (by omega)
  refine ⟨b, o, e, hl, fun j hj => ?_⟩
  rw [List.length_take] at hj
  rw [hc j (by omega), List.getElem_take]

/-! ### names -/
theorem bs_toList (x : Tx) : (bs x).toList = x := by rw [ByteArray.toList_eq]; rfl
theorem bs_get {x : Tx} {i : Nat} (h : i < (bs x).size) : (bs x)[i] = x[i]'(by rw [bs_size] at h; exact h) := rfl
set_option maxRecDepth 100000 in
theorem name1_at {w : World} {g : Nat} {x : Tx} {i : Nat} (hi : i < x.length) (hg : w.cell? ⟨g, 0, none⟩ = some (.string (bs x))) :
    Calls Tryd.prog 24 #[.int .i64 (i : Int), .pointer (some ⟨g, 0, none⟩)] w fun e w' => e = .returned (.bool (okB (x[i]'hi))) ∧ Below w.heap.size w w' := by
  have HB : Hid (∀ m, Below w.heap.size w (w.drewN m)) := fun m => below_drewN (Below.refl _ _) m
  have hs : (i : Int) < ((bs x).size : Int) := by rw [bs_size]; omega
  have hi2 : i < (bs x).size := by rw [bs_size]; exact hi
  have e0 : okB (x[i]'hi) = (((x[i]'hi).toNat : Int) != 0 && ((x[i]'hi).toNat : Int) != 47) := by
    have a : ∀ k : Nat, k < 256 → ((x[i]'hi != UInt8.ofNat k) = (((x[i]'hi).toNat : Int) != (k : Int))) := by
      intro k hk
      by_cases h : x[i]'hi = UInt8.ofNat k
      · rw [h]; simp; omega
      · have : (x[i]'hi).toNat ≠ k := fun e => h (by rw [← e]; simp)
        have e1 : (x[i]'hi != UInt8.ofNat k) = true := by simpa using h
        have e2 : ((((x[i]'hi).toNat : Int)) != (k : Int)) = true := by simpa using (by omega : ¬ ((x[i]'hi).toNat : Int) = k)
        rw [e1, e2]
    exact congr (congrArg (· && ·) (a 0 (by omega))) (a 47 (by omega))
  rw [e0, show (x[i]'hi) = (bs x)[i]'hi2 from rfl]
  cases h0 : ((((bs x)[i]'hi2).toNat : Int) != 0)
  · go_enter Tryd.func24, Tryd.ntmps24
    go_wp2_with fail
    go_quiet (fail)
    go_wp2_with fail
    go_ret
    exact ⟨rfl, HB.out _⟩
  · go_enter Tryd.func24, Tryd.ntmps24
    go_wp2_with fail
    go_quiet (fail)
    go_wp2_with fail
    go_ret
    exact ⟨rfl, HB.out _⟩
def iof : Value → Int
  | .int _ z => z
  | _ => 0
set_option maxRecDepth 100000 in
theorem name_at (x : Tx) (w : World) :
    Calls Tryd.prog 10 #[.string (bs x)] w fun e w' => e = .returned (.bool (isName x)) ∧ Below w.heap.size w w' := by
  have hx := bs_toList x
  have hsz := bs_size x
  have HB : Hid (∀ o, Below w.heap.size w (w.alloc o)) := fun o => (Below.refl _ _).alloc (Nat.le_refl _) _
  have c1 := fun (u : World) (i : Nat) (hi : i < x.length) (hg : u.cell? ⟨w.heap.size, 0, none⟩ = some (.string (bs x))) => name1_at hi hg
  go_enter Tryd.func10, Tryd.ntmps10
  go_wp2_with fail
  · go_ret; exact ⟨by simp_all [isName], HB.out _⟩
  · go_ret; exact ⟨by simp_all [isName], HB.out _⟩
  · rename_i h0 h1 h2 h3
    go_ret
    refine ⟨?_, HB.out _⟩
    have : isName x = false := by
      rcases h3 with ((h | h) | h) | h
      · exact absurd (List.isEmpty_iff.1 h) h0
      · omega
      · exact absurd (by simpa using h) h2
      · have h' : x = [46, 46] := by simpa using h
        simp [isName, h']
    rw [this]
    simp
  case' _ =>
    rename_i h0 h1 h2 h3 _ _
    have HN := hid (And.intro h0 (And.intro h1 h3))
    clear h0 h1 h2 h3
    go_loopw [23] (fun v u => ∃ i : Nat, i ≤ x.length ∧ v = .int .i64 (i : Int) ∧ Hid ((∀ c ∈ x.take i, okB c = true) ∧ Below w.heap.size w u ∧ u.cell? ⟨w.heap.size, 0, none⟩ = some (.string (bs x)))) (fun v _ => x.length - (iof v).toNat)
    case atStart => exact ⟨0, by omega, by simp, by simp, HB.out _, cell_of_row _ _ 0 _ _ (0, 0) (heap_alloc_new w _)⟩
    case round =>
      obtain ⟨i, hi, rfl, hrel⟩ := hrel
      by_cases hlt : i < x.length
      · have c2 := c1 _ i hlt hrel.out.2.2
        have hlt' : (i : Int) < (x.length : Int) := by omega
        have wr1 : IntKind.i64.wrap ((i : Int) + 1) = ((i + 1 : Nat) : Int) := by rw [IntKind.wrap_i64]; have := HN.out.2.1; omega
        clear c1
        cases hb : okB (x[i]'hlt)
        · rw [hb] at c2
          go_wp2_with fail
          refine c2.mono ?_
          rintro e w2 ⟨rfl, hbl⟩
          have HF : Hid (isName x = false ∧ Below w.heap.size w w2) := by
            refine ⟨?_, hrel.out.2.1.trans (hbl.mono hrel.out.2.1.size)⟩
            have : x.all okB = false := by
              apply Bool.eq_false_iff.2
              intro h
              have := List.all_eq_true.1 h _ (List.getElem_mem hlt)
              rw [hb] at this
              cases this
            simp [isName, this]
          clear hrel hbl c2
          go_wp2_with fail
          go_ret
          exact ⟨by rw [HF.out.1]; rfl, HF.out.2⟩
        · rw [hb] at c2
          go_wp2_with fail
          refine c2.mono ?_
          rintro e w2 ⟨rfl, hbl⟩
          have HF : Hid ((∀ c ∈ x.take (i + 1), okB c = true) ∧ Below w.heap.size w w2 ∧ w2.cell? ⟨w.heap.size, 0, none⟩ = some (.string (bs x))) := by
            have hlt2 : w.heap.size < _ := World.block_lt_of_cell? _ _ hrel.out.2.2
            refine ⟨?_, hrel.out.2.1.trans (hbl.mono hrel.out.2.1.size), (hbl.cell (p := ⟨w.heap.size, 0, none⟩) hlt2).trans hrel.out.2.2⟩
            rw [List.take_succ_eq_append_getElem hlt]
            intro c hc
            rcases List.mem_append.1 hc with h | h
            · exact hrel.out.1 c h
            · rw [List.mem_singleton.1 h]; exact hb
          clear hrel hbl c2
          go_wp2_with fail
          go_roundw
          case rel => exact ⟨i + 1, by omega, by simp, HF.out⟩
          case measure => simp only [iof]; omega
      · have hlt' : ¬ (i : Int) < (x.length : Int) := by omega
        have HF := hid hrel.out.2.1
        have HT : Hid (isName x = true) := by
          refine hid ?_
          obtain ⟨a, b, c⟩ := HN.out
          have e : x.take i = x := List.take_of_length_le (by omega)
          have hall := hrel.out.1
          rw [e] at hall
          have h1 : x.length ≠ 0 := fun e => a (List.eq_nil_of_length_eq_zero e)
          have h2 : x.length ≤ 60 := by omega
          have h3 : 1 ≤ x.length := by omega
          have h4 : (x != [46]) = true := by simp [bne, c.1.2]
          have h5 : (x != [46, 46]) = true := by simp [bne, c.2]
          simp only [isName, Bool.and_eq_true, decide_eq_true_eq]
          exact ⟨⟨⟨⟨h3, h2⟩, List.all_eq_true.2 hall⟩, h4⟩, h5⟩
        clear hrel HN
        go_wp2_with fail
        go_ret
        exact ⟨by rw [HT.out]; rfl, HF.out⟩
  · rename_i h0 h1
    go_ret
    refine ⟨?_, HB.out _⟩
    have h : ¬ x.length ≤ 60 := by omega
    have : isName x = false := by simp [isName, h]
    rw [this]
    simp
/-! ### lists of names -/
set_option maxRecDepth 100000 in
theorem are_at {w : World} {a : Option Addr} {xs : List Tx} {cap : Nat} (hl : xs.length ≤ 9223372036854775807) (h : Ts w a xs) :
    Calls Tryd.prog 22 #[.slice a xs.length cap] w fun e w' => e = .returned (.bool (xs.all isName)) ∧ Below w.heap.size w w' := by
  have c1 := fun (u : World) (x : Tx) => name_at x u
  have HA := hid h
  clear h
  go_enter Tryd.func22, Tryd.ntmps22
  go_wp2_with fail
  go_loopw [6] (fun v u => ∃ i : Nat, i ≤ xs.length ∧ v = .int .i64 (i : Int) ∧ Hid ((xs.take i).all isName = true ∧ Below w.heap.size w u)) (fun v _ => xs.length - (iof v).toNat)
  case atStart => exact ⟨0, by omega, by simp, by simp, Below.refl _ _⟩
  case round =>
    obtain ⟨i, hi, rfl, hrel⟩ := hrel
    by_cases hlt : i < xs.length
    · obtain ⟨b, o, rfl, hb, hc⟩ := HA.out (by omega)
      have cc := (hrel.out.2.cell (p := ⟨b, o + i, none⟩) hb).trans (hc i hlt)
      clear hc
      have hlt' : (i : Int) < (xs.length : Int) := by omega
      have wr1 : IntKind.i64.wrap ((i : Int) + 1) = ((i + 1 : Nat) : Int) := by rw [IntKind.wrap_i64]; omega
      have c2 := fun u => c1 u (xs[i]'hlt)
      have HX : Hid ((xs.take (i + 1)).all isName = isName (xs[i]'hlt)) := by
        refine hid ?_
        rw [List.take_succ_eq_append_getElem hlt, List.all_append, hrel.out.1]
        simp
      have HY : Hid (isName (xs[i]'hlt) = false → xs.all isName = false) := by
        refine hid (fun e => Bool.eq_false_iff.2 (fun h => ?_))
        have := List.all_eq_true.1 h _ (List.getElem_mem hlt)
        rw [e] at this
        cases this
      generalize xs[i]'hlt = x at *
      clear c1
      cases hn : isName x
      · rw [hn] at c2
        go_wp2_with fail
        refine (c2 _).mono ?_
        rintro e w2 ⟨rfl, hbl⟩
        have HF := hid (hrel.out.2.trans (hbl.mono hrel.out.2.size))
        clear hrel hbl c2
        go_wp2_with fail
        go_ret
        exact ⟨by rw [HY.out hn]; rfl, HF.out⟩
      · rw [hn] at c2 HX
        go_wp2_with fail
        refine (c2 _).mono ?_
        rintro e w2 ⟨rfl, hbl⟩
        have HF := hid (And.intro HX.out (hrel.out.2.trans (hbl.mono hrel.out.2.size)))
        clear hrel hbl c2
        go_wp2_with fail
        go_roundw
        case rel => exact ⟨i + 1, by omega, by simp, HF.out⟩
        case measure => simp only [iof]; omega
    · have hlt' : ¬ (i : Int) < (xs.length : Int) := by omega
      have HF := hid hrel.out.2
      have HT : Hid (xs.all isName = true) := by
        have := hrel.out.1
        rw [List.take_of_length_le (by omega)] at this
        exact hid this
      clear hrel
      go_wp2_with fail
      go_ret
      exact ⟨by rw [HT.out]; rfl, HF.out⟩
end Go.Proofs.YtcadnhjiodlpcaaDoor
