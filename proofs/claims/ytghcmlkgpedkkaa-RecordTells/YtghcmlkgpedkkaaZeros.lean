/-
  append(s, make([]byte, k)...), upon a row of one's own; entries in memory.
-/
import Derived.Lib.AppendZerosOnto
import Derived.Test.YtghcmlkgpedkkaaHideM
import Derived.Test.YtghcmlkgpedkkaaOctets
namespace Go.Proofs.Ytghcmlkgpedkkaa
open Go.RowKit

def nought (n : Nat) : List UInt8 := List.replicate n 0
theorem nought_length (n : Nat) : (nought n).length = n := by simp [nought]
theorem zeroCells_bytes (k : Nat) : Builtin.zeroCells (Value.cells (.int .u8 0)) k = (bcs (nought k)).toArray := by
  apply Array.toList_inj.1
  apply List.ext_getElem
  · simp [Builtin.zeroCells, bcs, nought, Value.cells]
  · intro i h1 h2
    simp [Builtin.zeroCells, bcs, bc, nought, Value.cells, Nat.mod_one]

theorem info3 : Try.prog.underlying 3 = some (.int .i64) := by kernel_rfl

theorem run_append_zeros (w : World) (base ty : Nat) (v : Value) (n k : Nat) (xs : List UInt8) (h0 : 0 < n) (hk : 0 < k) (hown : w.ownsRow base 5 1 v n (bcs xs)) (hb : n + k ≤ 140737488355328) (hbase : base ≤ w.heap.size) :
    ∃ v' w', (Builtin.append_ #[31, 3] ty #[v, .int .i64 (k : Int)]).run Try.prog w = .ok v' w' ∧ w'.ownsRow base 5 1 v' (n + k) (bcs (xs ++ nought k)) ∧ w.grownBy w' v.ownBlock := by
  obtain ⟨i0, hi, hz0, hz1, hz2⟩ := info_parts info5
  have hx : xs.length = n := by have := hown.1; rw [bcs_length] at this; omega
  have hlen : (bcs (xs ++ nought k)).length = (n + k) * 1 := by rw [bcs_length]; simp [nought_length, hx]
  rcases hown.2 with ⟨rfl, rfl⟩ | ⟨g, cap, cur, rfl, hbg, hg, hnc, hcm, hcs, htake⟩
  · omega
  · have hw : IntKind.i64.wrap (k : Int) = k := by rw [IntKind.wrap_i64]; omega
    have hneg : ¬ ((k : Int) < 0) := by omega
    have h48 : ¬ (281474976710656 < (k : Int)) := by omega
    have hk0 : ¬ k = 0 := by omega
    by_cases hroom : n + k ≤ cap
    · have hfit : n * 1 + (bcs (nought k)).length ≤ cur.size := by rw [bcs_length, nought_length]; omega
      have hst := run_storeCells_at Try.prog g (n * 1) 5 (bcs (nought k)) 0 cur w hg (by simpa using hfit) (bcs_oneCell _)
      simp only [Nat.add_zero, Nat.mul_one] at hst
      refine ⟨.slice (some ⟨g, 0, none⟩) (n + k) cap, w.setRow g (cur.toList.take n ++ bcs (nought k) ++ cur.toList.drop (n + (bcs (nought k)).length)).toArray, ?_, ⟨hlen, .inr ⟨g, cap, _, rfl, hbg, setRow_heap w g cur _ 5 _ hg, hroom, hcm, ?_, ?_⟩⟩, ⟨rfl, rfl, rfl, by simp, fun j _ hj => setRow_other w g j _ (fun e => hj (by simp [Value.ownBlock, e]))⟩⟩
      · simp [Builtin.append_, run_underlying Try.underlying31, run_underlying info3, sizeOf, typeInfo, zeroValue, hi, hz0, hz1, hz2, asInt, asIntOf, hw, hneg, hk0, h48, hroom, zeroCells_bytes, Addr.add_lit, hst]
      · simp [bcs_length, nought_length]; omega
      · rw [Nat.mul_one] at htake
        have e : cur.toList.take n ++ bcs (nought k) ++ cur.toList.drop (n + (bcs (nought k)).length) = bcs (xs ++ nought k) ++ cur.toList.drop (n + (bcs (nought k)).length) := by rw [htake, bcs_append]
        rw [← hlen]
        show List.take _ (cur.toList.take n ++ bcs (nought k) ++ cur.toList.drop (n + (bcs (nought k)).length)) = _
        rw [e]
        exact List.take_left
    · have holds : ∀ j u, (bcs xs)[j]? = some u → w.drew.cell? ((⟨g, 0, none⟩ : Addr).add j) = some u := hown.cells (g := g) rfl
      have hold := run_firstCells_some (P := Try.prog) w.drew i0.size n ⟨g, 0, none⟩ n cap (bcs xs) (by rw [hz1]; exact hown.1) holds
      have hr := Lib.run_append_grow_zeros (P := Try.prog) w 31 3 ty 5 i0 (.int .u8 0) .i64 .i64 Try.underlying31 info3 hi hz0 (some ⟨g, 0, none⟩) n cap (bcs xs) hold k hk (by omega) (by omega) (by omega) (by rw [hz2]; omega) (growslice_fits (by omega) (by rw [hz2]; omega))
      have hge := grownCap_ge w (n + k) cap 5
      have hcm2 : grownCap w (n + k) cap 5 ≤ maxLen := grownCap_le_maxLen w (n + k) cap 5 (by unfold maxLen; omega)
      refine ⟨_, _, hr, ⟨hlen, .inr ⟨w.heap.size, _, _, rfl, hbase, heap_alloc_new w.drew _, hge, hcm2, ?_, ?_⟩⟩, ⟨rfl, rfl, rfl, by simp, fun j hj _ => Below.heap_alloc w.drew _ j hj⟩⟩
      · rw [zeroCells_bytes, zeroCells_bytes]
        simp [bcs_length, nought_length, hx]
        omega
      · rw [zeroCells_bytes, zeroCells_bytes, ← hlen]
        have e : ((bcs xs).toArray ++ (bcs (nought k)).toArray ++ (bcs (nought (grownCap w (n + k) cap 5 - (n + k)))).toArray).toList = bcs (xs ++ nought k) ++ bcs (nought (grownCap w (n + k) cap 5 - (n + k))) := by simp [bcs_append]
        rw [e]
        exact List.take_left

/-- an entry lies here -/
def EntAt (w : World) (b o : Nat) (e : Nat × List UInt8) : Prop :=
  w.cell? ⟨b, o, none⟩ = some (.int .i64 (e.1 : Int)) ∧ ∃ g q c, w.cell? ⟨b, o + 1, none⟩ = some (.slice (some ⟨g, q, none⟩) 64 c) ∧ 64 ≤ c ∧ c ≤ 9223372036854775807 ∧ e.2.length = 64 ∧ Rd w (some ⟨g, q, none⟩) e.2
/-- entries, one behind the other -/
def Ents (w : World) (a : Option Addr) (es : List (Nat × List UInt8)) : Prop :=
  0 < es.length → ∃ b o, a = some ⟨b, o, none⟩ ∧ ∀ j (h : j < es.length), EntAt w b (o + j * 2) es[j]
theorem EntAt.below {w w' : World} {b o : Nat} {e : Nat × List UInt8} (h : EntAt w b o e) (hb : Below w.heap.size w w') : EntAt w' b o e := by
  obtain ⟨h1, g, q, c, h2, h3, h4, h5, h6⟩ := h
  have hlt : b < w.heap.size := block_lt_of_cell h1
  exact ⟨(hb.cell (p := ⟨b, o, none⟩) hlt).trans h1, g, q, c, (hb.cell (p := ⟨b, o + 1, none⟩) hlt).trans h2, h3, h4, h5, h6.below hb (Nat.le_refl _)⟩
theorem Ents.below {w w' : World} {a : Option Addr} {es : List (Nat × List UInt8)} (h : Ents w a es) (hb : Below w.heap.size w w') : Ents w' a es := fun hp => by
  obtain ⟨b, o, ha, hc⟩ := h hp
  exact ⟨b, o, ha, fun j hj => (hc j hj).below hb⟩
/-- a block of one's own, as a row -/
theorem Own.owns {w : World} {g B : Nat} {ys : List UInt8} (h : Own w g ys) (hB : B ≤ g) (hm : ys.length ≤ maxLen) : w.ownsRow B 5 1 (.slice (some ⟨g, 0, none⟩) ys.length ys.length) ys.length (bcs ys) :=
  ⟨by rw [bcs_length]; omega, .inr ⟨g, ys.length, (bcs ys).toArray, rfl, hB, h, Nat.le_refl _, hm, by simp [bcs_length], List.take_of_length_le (by simp [bcs_length])⟩⟩

/-- entries as bytes -/
def entsB (es : List (Nat × List UInt8)) : List UInt8 := es.flatMap fun e => toBE 2 e.1 ++ e.2
theorem entsB_length (es : List (Nat × List UInt8)) (h : ∀ e ∈ es, e.2.length = 64) : (entsB es).length = es.length * 66 := by
  induction es with
  | nil => rfl
  | cons e es ih =>
    have h1 := ih (fun x hx => h x (List.mem_cons_of_mem _ hx))
    have h2 := h e (List.mem_cons_self)
    simp only [entsB, List.flatMap_cons, List.length_append, toBE_length, List.length_cons] at h1 ⊢
    omega
theorem entsB_take (es : List (Nat × List UInt8)) (k : Nat) (h : k < es.length) : entsB (es.take (k + 1)) = entsB (es.take k) ++ toBE 2 es[k].1 ++ es[k].2 := by
  unfold entsB
  rw [List.take_succ_eq_append_getElem h, List.flatMap_append]
  simp only [List.flatMap_cons, List.flatMap_nil, List.append_nil, List.append_assoc]
/-- what stands behind the sum -/
def restB (es : List (Nat × List UInt8)) : List UInt8 := entsB es ++ nought (4026 - es.length * 66)
end Go.Proofs.Ytghcmlkgpedkkaa
