/-
  A path out of its names; up, within.
-/
import Derived.Test.YtcadnhjiodlpcaaDoorSpl
namespace Go.Proofs.YtcadnhjiodlpcaaDoor
open Go.RowKit
/-- A text that was told, and an error. -/
def RJ (w : World) (t : Tx) (e : Nat) (r : Ending) (w' : World) : Prop := r = .returned (.tuple #[.string (bs t), .int .i64 (e : Int)]) ∧ Below w.heap.size w w'
theorem lib_join (xs : List Tx) : 47 :: Lib.join xs [47] = pathOf xs := by
  cases xs with
  | nil => rfl
  | cons x r =>
    rw [Lib.join_cons]
    show _ = jn (x :: r)
    rw [jn_cons]
    congr 2
theorem bs_append (x y : Tx) : bs x ++ bs y = bs (x ++ y) := by
  apply ByteArray.ext
  simp [bs]
theorem sjoin_at {w : World} {a : Option Addr} {xs : List Tx} {c : Nat} (h : Ts w a xs) (hc : xs.length ≤ c) (hl : xs.length ≤ 1000) (hp : (pathOf xs).length ≤ 100000) :
    Calls Tryd.prog 23 #[.slice a xs.length c, .string ⟨#[47]⟩] w fun e w' => e = .returned (.string (bs (Lib.join xs [47]))) ∧ Below w.heap.size w w' := by
  by_cases h0 : xs = []
  · subst h0
    exact (Tryd.strings_Join_none a c ⟨#[47]⟩ w).mono (fun e w' h => ⟨h.1, h.2 ▸ Below.refl _ _⟩)
  · obtain ⟨b, o, rfl, hb, hcs⟩ := h (List.length_pos_iff.2 h0)
    have e1 : (xs.map bs).map (·.data.toList) = xs := by
      rw [List.map_map]
      have : ((fun x : ByteArray => x.data.toList) ∘ bs) = id := rfl
      rw [this, List.map_id]
    have hj := congrArg List.length (lib_join xs)
    rw [List.length_cons] at hj
    have c := Tryd.strings_Join b o c (xs.map bs) ⟨#[47]⟩ w (fun j x hx => by
      rw [List.getElem?_map] at hx
      obtain ⟨y, hy, rfl⟩ := Option.map_eq_some_iff.1 hx
      obtain ⟨hlt, rfl⟩ := List.getElem?_eq_some_iff.1 hy
      exact hcs j hlt) hb (by simp; omega) (by simpa using hc) (by rw [e1]; show (Lib.join xs [47]).length ≤ _; omega)
    rw [List.length_map, e1] at c
    exact c
theorem names_len {xs : List Tx} (h : xs.all isName = true) : (pathOf xs).length ≤ 61 * xs.length + 1 := by
  rcases spl_tail_len xs with h' | ⟨p, hp, hl⟩
  · unfold pathOf
    split
    · simp
    · omega
  · have := (isName_pos (List.all_eq_true.1 h p hp)).2
    omega
set_option maxRecDepth 100000 in
theorem join_at {w : World} {a : Option Addr} {xs : List Tx} {c : Nat} (h : Ts w a xs) (hc : xs.length ≤ c) (hl : xs.length ≤ 9223372036854775807) :
    Calls Tryd.prog 9 #[.slice a xs.length c] w (RJ w (joinP xs).1 (joinP xs).2) := by
  have c1 := are_at (cap := c) hl h
  have HE : Hid (joinP xs = if xs.all isName then (if 16 < xs.length ∨ 400 < (pathOf xs).length then ([], 211) else (pathOf xs, 0)) else ([], 210)) := hid rfl
  generalize joinP xs = q at *
  cases hn : xs.all isName
  · rw [hn] at c1
    have e : q = ([], 210) := by have := HE.out; simpa [hn] using this
    rw [e]
    clear HE e h
    go_enter Tryd.func9, Tryd.ntmps9
    go_wp2_with fail
    refine c1.mono ?_
    rintro e w1 ⟨rfl, hb⟩
    have HB := hid hb
    clear hb
    go_wp2_with fail
    go_ret2
    exact ⟨rfl, HB.out⟩
  rw [hn] at c1
  have hlen := names_len hn
  by_cases h16 : 16 < xs.length
  · have e : q = ([], 211) := by have := HE.out; simpa [hn, h16] using this
    rw [e]
    have hk : (16 : Int) < (xs.length : Int) := by omega
    clear HE e h hlen
    go_enter Tryd.func9, Tryd.ntmps9
    go_wp2_with fail
    refine c1.mono ?_
    rintro e w1 ⟨rfl, hb⟩
    have HB := hid hb
    clear hb
    go_wp2_with fail
    go_ret2
    exact ⟨rfl, HB.out⟩
  have hk : ¬ (16 : Int) < (xs.length : Int) := by omega
  have c2 := fun u (hb : Below w.heap.size w u) => sjoin_at (w := u) (c := c) (h.below hb (Nat.le_refl _)) hc (by omega) (by omega)
  have hj := lib_join xs
  have hadd : bs [47] ++ bs (Lib.join xs [47]) = bs (pathOf xs) := by rw [bs_append, ← hj]; rfl
  have hsz : (bs (Lib.join xs [47])).size + 1 = (pathOf xs).length := by
    rw [bs_size, ← hj, List.length_cons]
  have hz1 : ¬ 9223372036854775807 < 1 + (bs (Lib.join xs [47])).size := by omega
  by_cases h4 : 400 < (pathOf xs).length
  · have e : q = ([], 211) := by have := HE.out; simpa [hn, h4] using this
    rw [e]
    have hk4 : (400 : Int) < 1 + ((bs (Lib.join xs [47])).size : Int) := by omega
    clear HE e h hlen h16 h4 hj hsz
    generalize pathOf xs = pp at *
    generalize Lib.join xs [47] = jj at *
    go_enter Tryd.func9, Tryd.ntmps9
    go_wp2_with fail
    refine c1.mono ?_
    rintro e w1 ⟨rfl, hb⟩
    have HB := hid hb
    have c3 := c2 w1 hb
    clear hb c2
    go_wp2_with fail
    refine c3.mono ?_
    rintro e w2 ⟨rfl, hb2⟩
    have HB2 := hid (HB.out.trans (hb2.mono HB.out.size))
    clear HB hb2 c3
    go_wp2_with fail
    go_ret2
    exact ⟨rfl, HB2.out⟩
  · have e : q = (pathOf xs, 0) := by have := HE.out; simpa [hn, h4, h16] using this
    rw [e]
    have hk4 : ¬ (400 : Int) < 1 + ((bs (Lib.join xs [47])).size : Int) := by omega
    clear HE e h hlen h16 h4 hj hsz
    generalize pathOf xs = pp at *
    generalize Lib.join xs [47] = jj at *
    go_enter Tryd.func9, Tryd.ntmps9
    go_wp2_with fail
    refine c1.mono ?_
    rintro e w1 ⟨rfl, hb⟩
    have HB := hid hb
    have c3 := c2 w1 hb
    clear hb c2
    go_wp2_with fail
    refine c3.mono ?_
    rintro e w2 ⟨rfl, hb2⟩
    have HB2 := hid (HB.out.trans (hb2.mono HB.out.size))
    clear HB hb2 c3
    go_wp2_with fail
    go_ret2
    exact ⟨by rw [← hadd]; rfl, HB2.out⟩
end Go.Proofs.YtcadnhjiodlpcaaDoor
