/-
  Ready.
-/
import Derived.Test.YtjhhncbadkpbaaaGather
namespace Go.Proofs.Ytjhhncbadkpbaaa
open Go.RowKit
def lineX (S : SS) : List Ep := S.L.map fun i => ⟨S.G.getD i 0, i, S.E.getD i ⟨.nilIface, 0, 0⟩⟩
theorem lineX_len (S : SS) : (lineX S).length = S.L.length := List.length_map _
theorem lineX_gat (S : SS) : gat (fun _ => true) (lineX S) = S.L.map (· + 1) := by
  unfold gat lineX
  rw [List.filter_eq_self.2 (by simp)]
  simp
theorem ready_g {w : World} {B s : Nat} {S : SS} {vt va vl : Value} (h : Sh w B s S vt va vl) (hl : S.L.length < 100000) (hg : S.G.length < 100000) :
    Calls Try.prog 28 #[vl, .func (.func 29) #[] #[]] w fun r w' => ∃ v', r = .returned v' ∧ w'.ownsRow w.heap.size 3 1 v' S.L.length (ics (S.L.map (· + 1))) ∧ Below w.heap.size w w' := by
  have hlen := h.ents.len
  have h1 : w.ownsRow B 61 1 vl (lineX S).length ((lineX S).map fun x => ptr x.g) := by
    have h1 := h.rows.rl
    rw [List.length_map, List.map_map] at h1
    unfold lineX
    rw [List.length_map, List.map_map]
    exact h1
  have h2 : ∀ x ∈ lineX S, Box w x.g (enC x.i x.e) 70 := by
    intro x hx
    obtain ⟨i, hi, rfl⟩ := List.mem_map.1 hx
    have hi' := h.ll i hi
    have := h.ents.en i hi' (S.E[i]'(by omega)) (List.getElem?_eq_getElem _)
    show Box w (S.G.getD i 0) (enC i (S.E.getD i _)) 70
    rw [getD_at hi', show S.E.getD i ⟨.nilIface, 0, 0⟩ = S.E[i]'(by omega) by simp [show i < S.E.length by omega]]
    exact this
  have h3 : ∀ x ∈ lineX S, x.i < 100000 := by
    intro x hx
    obtain ⟨i, hi, rfl⟩ := List.mem_map.1 hx
    have := h.ll i hi
    show i < 100000
    omega
  have cg := gather_at (w := w) (B := B) (v := vl) (lineX S) h1 h2 (by rw [lineX_len]; exact hl) h3 29 (fun _ => true) (fun u x _ _ => always _ u) (enters_of Try.func29 (by kernel_rfl) rfl)
  rw [lineX_gat, List.length_map] at cg
  exact cg
theorem ready_at {w : World} {B s : Nat} {S : SS} (h : IsS w B s S) (hl : S.L.length < 100000) (hg : S.G.length < 100000) : Calls Try.prog 18 #[ptr s] w fun r w' => ∃ v', r = .returned v' ∧ w'.ownsRow w.heap.size 3 1 v' S.L.length (ics (S.L.map (· + 1))) ∧ Below w.heap.size w w' := by
  obtain ⟨vt, va, vl, h⟩ := h
  have c := isMade_at h.rows.box
  have c3 : w.cell? ⟨s, 3, none⟩ = some vl := h.rows.box.cell 3
  have cg := ready_g h hl hg
  obtain ⟨a, cap, hvl⟩ := ownsRow_slice h.rows.rl
  generalize ics (S.L.map (· + 1)) = ys at *
  rw [List.length_map] at hvl
  generalize S.L.length = m at *
  clear h
  subst hvl
  unfold ptr at *
  go_enter Try.func18, Try.ntmps18
  go_wp2_with (first | (go_at_call 23; refine c.mono ?_; rintro e w' ⟨rfl, rfl⟩) | (go_at_call 28; refine cg.mono ?_; rintro e w' ⟨v', rfl, ho, hb⟩))
  go_ret
  exact ⟨v', rfl, ho, hb⟩
end Go.Proofs.Ytjhhncbadkpbaaa
