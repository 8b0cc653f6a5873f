/-
  Rows of the document's disk, behind appends.
-/
import Derived.Test.YtagnmmapnpcijaaRefD
namespace Go.Proofs.Ytagnmmapnpcijaa
open Go.RowKit

theorem infoW : (Try.prog.info? 57).map (fun i => (i.zero, i.size, i.bytes)) = some (some (.agg #[.int .i64 0, .slice none 0 0]), 2, 32) := by kernel_rfl
theorem info27' : (Try.prog.info? 27).map (fun i => (i.zero, i.size, i.bytes)) = some (some (.slice none 0 0), 1, 24) := by kernel_rfl

/-- the cells of a row of writes -/
theorem WrAt.cells {w : World} {Q : Nat → Prop} {a : Option Addr} {n c : Nat} {ws : List (Nat × List UInt8)} (h : WrAt w Q a n c ws) (h0 : 0 < n) :
    ∃ g o, a = some ⟨g, o, none⟩ ∧ ∃ news : List Value, news.length = n * 2 ∧ (∀ j u, news[j]? = some u → w.cell? ((⟨g, o, none⟩ : Addr).add j) = some u) ∧ (∀ u ∈ news, u.oneCell' = true) ∧
      ∀ j x, ws[j]? = some x → news[j * 2]? = some (.int .i64 (x.1 : Int)) ∧ ∃ u, news[j * 2 + 1]? = some u ∧ BlkAt w Q u x.2 := by
  obtain ⟨h1, h2, h3, _, h4⟩ := h
  obtain ⟨g, o, ha, hq, _, hc⟩ := h4 h0
  have key : ∀ j, j < n * 2 → ∃ u, w.cell? ⟨g, o + j, none⟩ = some u ∧ u.oneCell' = true := by
    intro j hj
    have hq : j / 2 < ws.length := by omega
    obtain ⟨k1, u, k2, k3⟩ := hc (j / 2) _ (List.getElem?_eq_getElem hq)
    rcases (show j = j / 2 * 2 ∨ j = j / 2 * 2 + 1 by omega) with e | e
    · rw [e]
      exact ⟨_, k1, rfl⟩
    · rw [e, ← Nat.add_assoc]
      obtain ⟨p, o', c', rfl, _⟩ := k3
      exact ⟨_, k2, rfl⟩
  have get : ∀ j, j < n * 2 → ((List.range (n * 2)).map fun j => (w.cell? ⟨g, o + j, none⟩).getD undef)[j]? = w.cell? ⟨g, o + j, none⟩ := by
    intro j hj
    obtain ⟨u, hu, _⟩ := key j hj
    simp [hj, hu]
  refine ⟨g, o, ha, (List.range (n * 2)).map fun j => (w.cell? ⟨g, o + j, none⟩).getD undef, by simp, fun j u hj => ?_, fun u hu => ?_, fun j x hx => ?_⟩
  · have hlt : j < n * 2 := by have := (List.getElem?_eq_some_iff.1 hj).1; simpa using this
    rw [Addr.add_lit, ← get j hlt]
    exact hj
  · obtain ⟨j, hj, rfl⟩ := List.mem_map.1 hu
    obtain ⟨u, hu, h1⟩ := key j (by simpa using hj)
    rw [hu]
    exact h1
  · have hj : j < ws.length := (List.getElem?_eq_some_iff.1 hx).1
    obtain ⟨k1, u, k2, k3⟩ := hc j x hx
    exact ⟨by rw [get _ (by omega)]; exact k1, u, by rw [get _ (by omega), ← Nat.add_assoc]; exact k2, k3⟩

/-- a row of one's own of writes is such a row -/
theorem WrAt.of_own {w : World} {Q : Nat → Prop} {B n : Nat} {v : Value} {xs : List Value} {ws : List (Nat × List UInt8)} (h : w.ownsRow B 57 2 v n xs) (h0 : 0 < n) (hl : ws.length = n) (hQ : ∀ i, B ≤ i → Q i)
    (hx : ∀ j x, ws[j]? = some x → xs[j * 2]? = some (.int .i64 (x.1 : Int)) ∧ ∃ u, xs[j * 2 + 1]? = some u ∧ BlkAt w Q u x.2) : ∃ g c, v = .slice (some ⟨g, 0, none⟩) n c ∧ WrAt w Q (some ⟨g, 0, none⟩) n c ws := by
  have h' := h
  rcases h.2 with ⟨_, h2⟩ | ⟨g, cap, cur, rfl, hB, hg, hnc, hcm, hcs, ht⟩
  · omega
  · refine ⟨g, cap, rfl, hl, hnc, hcm, fun e => by omega, fun _ => ⟨g, 0, rfl, hQ g hB, ⟨cur, hg⟩, fun j x hjx => ?_⟩⟩
    have hj : j < ws.length := (List.getElem?_eq_some_iff.1 hjx).1
    obtain ⟨k1, u, k2, k3⟩ := hx j x hjx
    exact ⟨by rw [Nat.zero_add, h'.cellAt _ (by omega)]; exact k1, u, by rw [Nat.zero_add, h'.cellAt _ (by omega)]; exact k2, k3⟩

/-- a row of one's own of blocks' bytes -/
theorem SafeAt.of_own {w : World} {Q : Nat → Prop} {B n : Nat} {v : Value} {xs : List Value} {bs : List (List UInt8)} (h : w.ownsRow B 27 1 v n xs) (h0 : 0 < n) (hl : bs.length = n) (hQ : ∀ i, B ≤ i → Q i)
    (hx : ∀ (j : Nat) (x : List UInt8), bs[j]? = some x → ∃ u, xs[j]? = some u ∧ BlkAt w Q u x) : ∃ g c, v = .slice (some ⟨g, 0, none⟩) n c ∧ SafeAt w Q (some ⟨g, 0, none⟩) n c bs := by
  have h' := h
  rcases h.2 with ⟨_, h2⟩ | ⟨g, cap, cur, rfl, hB, hg, hnc, hcm, hcs, ht⟩
  · omega
  · refine ⟨g, cap, rfl, hl, hnc, hcm, g, 0, rfl, hQ g hB, ⟨cur, hg⟩, fun j x hjx => ?_⟩
    have hj : j < bs.length := (List.getElem?_eq_some_iff.1 hjx).1
    obtain ⟨u, k2, k3⟩ := hx j x hjx
    exact ⟨u, by rw [Nat.zero_add, h'.cellAt _ (by omega)]; exact k2, k3⟩
/-- the cells of a row of blocks' bytes -/
theorem SafeAt.cells {w : World} {Q : Nat → Prop} {a : Option Addr} {n c : Nat} {bs : List (List UInt8)} (h : SafeAt w Q a n c bs) :
    ∃ g o, a = some ⟨g, o, none⟩ ∧ ∃ news : List Value, news.length = n * 1 ∧ (∀ j u, news[j]? = some u → w.cell? ((⟨g, o, none⟩ : Addr).add j) = some u) ∧ (∀ u ∈ news, u.oneCell' = true) ∧
      ∀ (j : Nat) (x : List UInt8), bs[j]? = some x → ∃ u, news[j]? = some u ∧ BlkAt w Q u x := by
  obtain ⟨h1, h2, h3, g, o, ha, hq, _, hc⟩ := h
  have key : ∀ j, j < n → ∃ u, w.cell? ⟨g, o + j, none⟩ = some u ∧ u.oneCell' = true := by
    intro j hj
    obtain ⟨u, k2, k3⟩ := hc j _ (List.getElem?_eq_getElem (by omega))
    obtain ⟨p, o', c', rfl, _⟩ := k3
    exact ⟨_, k2, rfl⟩
  have get : ∀ j, j < n → ((List.range n).map fun j => (w.cell? ⟨g, o + j, none⟩).getD undef)[j]? = w.cell? ⟨g, o + j, none⟩ := by
    intro j hj
    obtain ⟨u, hu, _⟩ := key j hj
    simp [hj, hu]
  refine ⟨g, o, ha, (List.range n).map fun j => (w.cell? ⟨g, o + j, none⟩).getD undef, by simp, fun j u hj => ?_, fun u hu => ?_, fun j x hx => ?_⟩
  · have hlt : j < n := by have := (List.getElem?_eq_some_iff.1 hj).1; simpa using this
    rw [Addr.add_lit, ← get j hlt]
    exact hj
  · obtain ⟨j, hj, rfl⟩ := List.mem_map.1 hu
    obtain ⟨u, hu, h1⟩ := key j (by simpa using hj)
    rw [hu]
    exact h1
  · have hj : j < bs.length := (List.getElem?_eq_some_iff.1 hx).1
    obtain ⟨u, k2, k3⟩ := hc j x hx
    exact ⟨u, by rw [get _ (by omega)]; exact k2, k3⟩
end Go.Proofs.Ytagnmmapnpcijaa
