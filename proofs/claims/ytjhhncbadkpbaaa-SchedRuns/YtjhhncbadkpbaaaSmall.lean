/-
  A sched's state, and its small calls: isMade, find, Status, Steps, New; and of a sched that is none.
-/
import Derived.Test.YtjhhncbadkpbaaaMem
import Derived.LaidEqlPtr
namespace Go.Proofs.Ytjhhncbadkpbaaa
open Go.RowKit

/-- the blocks of those that are not over -/
def alv (E : List En) (G : List Nat) : List Nat := ((E.zip G).filter fun p => p.1.st != 3).map (·.2)
structure SS where
  G : List Nat
  E : List En
  L : List Nat
  now : Option Nat
  wk : Bool
def SS.nv (S : SS) : Value := match S.now with
  | none => .pointer none
  | some i => ptr (S.G.getD i 0)
structure Sh (w : World) (B s : Nat) (S : SS) (vt va vl : Value) : Prop where
  rows : Rws w B s vt va vl S.nv S.wk S.G (alv S.E S.G) (S.L.map fun i => S.G.getD i 0)
  ents : Ents w B S.G S.E
  ll : ∀ i ∈ S.L, i < S.G.length
  hn : ∀ i, S.now = some i → i < S.G.length
def IsS (w : World) (B s : Nat) (S : SS) : Prop := ∃ vt va vl, Sh w B s S vt va vl
/-- types that are no sched's -/
def Oth (t : TypeId) : Prop := t ≠ 61 ∧ t ≠ 63 ∧ t ≠ 70
theorem Sh.kt {w w' : World} {B s : Nat} {S : SS} {vt va vl : Value} (h : Sh w B s S vt va vl) {p : TypeId → Prop} (hk : Kt p w w') (h1 : p 61) (h3 : p 63) (h7 : p 70) : Sh w' B s S vt va vl := ⟨h.rows.kt hk h1 h3, h.ents.kt hk h7, h.ll, h.hn⟩
theorem IsS.kt {w w' : World} {B s : Nat} {S : SS} (h : IsS w B s S) {p : TypeId → Prop} (hk : Kt p w w') (h1 : p 61) (h3 : p 63) (h7 : p 70) : IsS w' B s S := by
  obtain ⟨vt, va, vl, h⟩ := h
  exact ⟨vt, va, vl, h.kt hk h1 h3 h7⟩
theorem IsS.below {w w' : World} {B s : Nat} {S : SS} (h : IsS w B s S) (hb : Below w.heap.size w w') : IsS w' B s S := h.kt (p := fun _ => True) (Kt.below hb) trivial trivial trivial
theorem IsS.hB {w : World} {B s : Nat} {S : SS} (h : IsS w B s S) : B ≤ w.heap.size := by
  obtain ⟨vt, va, vl, h⟩ := h
  exact Nat.le_trans h.rows.hs (Nat.le_of_lt h.rows.box.lt)
/-- what a call leaves: a sched, and all that is not its own as it was -/
structure To (w : World) (B s : Nat) (S : SS) (w' : World) : Prop where
  is : IsS w' B s S
  bel : Below B w w'
  kt : Kt Oth w w'

theorem infoS : (Try.prog.info? 63).map (fun i => (i.zero.isSome, i.size)) = some (true, 6) := by kernel_rfl
theorem pointS : Try.prog.underlying 22 = some (.pointer 63) := by kernel_rfl
theorem infoE : (Try.prog.info? 70).map (fun i => (i.zero.isSome, i.size)) = some (true, 4) := by kernel_rfl
theorem pointE : Try.prog.underlying 61 = some (.pointer 70) := by kernel_rfl
theorem eqlSelf (g : Nat) (w : World) : (binOp .eql 22 (.pointer (some ⟨g, 0, none⟩)) (.pointer (some ⟨g, 0, none⟩))).run Try.prog w = .ok (.bool true) w := by
  cases h : Try.prog.info? 63 with
  | none => have := infoS; rw [h] at this; cases this
  | some i => exact run_eql_ptr_same w ⟨g, 0, none⟩ pointS h
theorem eqlNone (g : Nat) (w : World) : (binOp .eql 22 (.pointer none) (.pointer (some ⟨g, 0, none⟩))).run Try.prog w = .ok (.bool false) w := by
  have h : ∀ d : Nat, (Op.equalIn (d + 1) 22 (.pointer none) (.pointer (some ⟨g, 0, none⟩))).run Try.prog w = .ok false w := fun d => by
    simp [Op.equalIn, run_underlying pointS]
  simp only [binOp]
  simp [Op.equal, Op.maxDepth, h]
theorem eqlE (g : Nat) (w : World) : (binOp .eql 61 (.pointer (some ⟨g, 0, none⟩)) (.pointer (some ⟨g, 0, none⟩))).run Try.prog w = .ok (.bool true) w := by
  cases h : Try.prog.info? 70 with
  | none => have := infoE; rw [h] at this; cases this
  | some i => exact run_eql_ptr_same w ⟨g, 0, none⟩ pointE h
theorem eqlE_none (g : Nat) (w : World) : (binOp .eql 61 (.pointer none) (.pointer (some ⟨g, 0, none⟩))).run Try.prog w = .ok (.bool false) w := by
  have h : ∀ d : Nat, (Op.equalIn (d + 1) 61 (.pointer none) (.pointer (some ⟨g, 0, none⟩))).run Try.prog w = .ok false w := fun d => by
    simp [Op.equalIn, run_underlying pointE]
  simp only [binOp]
  simp [Op.equal, Op.maxDepth, h]
theorem eqlE_other {g q : Nat} {w : World} {cs cs' : Array Value} {t t' : TypeId} (h1 : Box w g cs t) (h2 : Box w q cs' t') (hne : g ≠ q) : (binOp .eql 61 (.pointer (some ⟨g, 0, none⟩)) (.pointer (some ⟨q, 0, none⟩))).run Try.prog w = .ok (.bool false) w := by
  cases h : Try.prog.info? 70 with
  | none => have := infoE; rw [h] at this; cases this
  | some i =>
    have hz : i.size ≠ 0 := by have := infoE; rw [h] at this; simp at this; omega
    exact run_eql_ptr_other w pointE h hz (fun e => hne (by injection e)) h1 h2
theorem isMade_at {w : World} {s : Nat} {a b c d e : Value} (h : Box w s #[ptr s, a, b, c, d, e] 63) : Calls Try.prog 23 #[ptr s] w fun r w' => r = .returned (.bool true) ∧ w' = w := by
  have c0 : w.cell? ⟨s, 0, none⟩ = some (ptr s) := h.cell 0
  unfold ptr at *
  have he := eqlSelf s
  go_enter Try.func23, Try.ntmps23
  go_wp2
  go_ret
  simp
theorem isMade_nil (w : World) : Calls Try.prog 23 #[.pointer none] w fun r w' => r = .returned (.bool false) ∧ w' = w := by
  go_enter Try.func23, Try.ntmps23
  go_wp2
  go_ret
  simp
theorem isMade_zero {w : World} {s : Nat} {a b c d e : Value} (h : Box w s #[.pointer none, a, b, c, d, e] 63) : Calls Try.prog 23 #[ptr s] w fun r w' => r = .returned (.bool false) ∧ w' = w := by
  have c0 : w.cell? ⟨s, 0, none⟩ = some (.pointer none) := h.cell 0
  unfold ptr at *
  have he := eqlNone s
  go_enter Try.func23, Try.ntmps23
  go_wp2
  go_ret
  simp
/-- a sched that is none -/
def NoS (w : World) (v : Value) : Prop := v = .pointer none ∨ ∃ s a b c d e, v = ptr s ∧ Box w s #[.pointer none, a, b, c, d, e] 63
theorem isMade_no {w : World} {v : Value} (h : NoS w v) : Calls Try.prog 23 #[v] w fun r w' => r = .returned (.bool false) ∧ w' = w := by
  rcases h with rfl | ⟨s, a, b, c, d, e, rfl, h⟩
  · exact isMade_nil w
  · exact isMade_zero h
theorem find_no {w : World} {v : Value} (h : NoS w v) (id : Int) : Calls Try.prog 27 #[v, .int .i64 id] w fun r w' => r = .returned (.pointer none) ∧ w' = w := by
  have c := isMade_no h
  go_enter Try.func27, Try.ntmps27
  go_wp2_with (go_at_call 23; refine c.mono ?_; rintro e w' ⟨rfl, rfl⟩)
  go_ret
  simp
theorem find_in {w : World} {B s : Nat} {S : SS} (h : IsS w B s S) (i : Nat) (hi : i < S.G.length) (hb : S.G.length < 1000000) : Calls Try.prog 27 #[ptr s, .int .i64 ((i + 1 : Nat) : Int)] w fun r w' => r = .returned (ptr S.G[i]) ∧ w' = w := by
  obtain ⟨vt, va, vl, h⟩ := h
  have c := isMade_at h.rows.box
  obtain ⟨g, cap, rfl, cg⟩ := ownsRow_cell h.rows.rt i hi
  have c1 : w.cell? ⟨s, 1, none⟩ = some (.slice (some ⟨g, 0, none⟩) S.G.length cap) := h.rows.box.cell 1
  have cg' : w.cell? ⟨g, i, none⟩ = some (ptr S.G[i]) := by rw [cg]; simp [hi]
  generalize S.G[i] = q at cg'
  generalize S.G.length = n at *
  clear cg h
  have e1 : ((i + 1 : Nat) : Int) - 1 = (i : Int) := by omega
  have h1 : (1 : Int) ≤ ((i + 1 : Nat) : Int) := by omega
  have h2 : ((i + 1 : Nat) : Int) ≤ (n : Int) := by omega
  generalize ((i + 1 : Nat) : Int) = z at *
  unfold ptr at *
  go_enter Try.func27, Try.ntmps27
  go_wp2_with (go_at_call 23; refine c.mono ?_; rintro e w' ⟨rfl, rfl⟩)
  go_ret
  simp
theorem find_out {w : World} {B s : Nat} {S : SS} (h : IsS w B s S) (id : Int) (hi : id < 1 ∨ (S.G.length : Int) < id) : Calls Try.prog 27 #[ptr s, .int .i64 id] w fun r w' => r = .returned (.pointer none) ∧ w' = w := by
  obtain ⟨vt, va, vl, h⟩ := h
  have c := isMade_at h.rows.box
  obtain ⟨a, cap, rfl⟩ := ownsRow_slice h.rows.rt
  have c1 : w.cell? ⟨s, 1, none⟩ = some (.slice a S.G.length cap) := h.rows.box.cell 1
  generalize S.G.length = n at *
  clear h
  unfold ptr at *
  by_cases h1 : id < 1
  · go_enter Try.func27, Try.ntmps27
    go_wp2_with (go_at_call 23; refine c.mono ?_; rintro e w' ⟨rfl, rfl⟩)
    go_ret
    simp
  · have h2 : (n : Int) < id := by omega
    clear hi
    go_enter Try.func27, Try.ntmps27
    go_wp2_with (go_at_call 23; refine c.mono ?_; rintro e w' ⟨rfl, rfl⟩)
    go_ret
    simp
theorem Sh.cells {w : World} {B s : Nat} {S : SS} {vt va vl : Value} (h : Sh w B s S vt va vl) (i : Nat) (hi : i < S.G.length) (e : En) (he : S.E[i]? = some e) :
    w.cell? ⟨S.G[i], 0, none⟩ = some (.int .i64 ((i + 1 : Nat) : Int)) ∧ w.cell? ⟨S.G[i], 1, none⟩ = some e.task ∧ w.cell? ⟨S.G[i], 2, none⟩ = some (.int .u8 (e.st : Int)) ∧ w.cell? ⟨S.G[i], 3, none⟩ = some (.int .i64 (e.n : Int)) :=
  have b := h.ents.en i hi e he
  ⟨b.cell 0, b.cell 1, b.cell 2, b.cell 3⟩
theorem status_in {w : World} {B s : Nat} {S : SS} (h : IsS w B s S) (i : Nat) (e : En) (he : S.E[i]? = some e) (hb : S.G.length < 1000000) : Calls Try.prog 21 #[ptr s, .int .i64 ((i + 1 : Nat) : Int)] w fun r w' => r = .returned (.int .u8 (e.st : Int)) ∧ w' = w := by
  have hi : i < S.G.length := by obtain ⟨vt, va, vl, h⟩ := h; rw [← h.ents.len]; exact (List.getElem?_eq_some_iff.1 he).1
  have c := find_in h i hi hb
  obtain ⟨vt, va, vl, h⟩ := h
  obtain ⟨_, _, c2, _⟩ := h.cells i hi e he
  generalize S.G[i] = q at *
  generalize ((i + 1 : Nat) : Int) = z at *
  clear h
  unfold ptr at *
  go_enter Try.func21, Try.ntmps21
  go_wp2_with (go_at_call 27; refine c.mono ?_; rintro e w' ⟨rfl, rfl⟩)
  go_ret
  simp
theorem steps_in {w : World} {B s : Nat} {S : SS} (h : IsS w B s S) (i : Nat) (e : En) (he : S.E[i]? = some e) (hb : S.G.length < 1000000) : Calls Try.prog 22 #[ptr s, .int .i64 ((i + 1 : Nat) : Int)] w fun r w' => r = .returned (.int .i64 (e.n : Int)) ∧ w' = w := by
  have hi : i < S.G.length := by obtain ⟨vt, va, vl, h⟩ := h; rw [← h.ents.len]; exact (List.getElem?_eq_some_iff.1 he).1
  have c := find_in h i hi hb
  obtain ⟨vt, va, vl, h⟩ := h
  obtain ⟨_, _, _, c3⟩ := h.cells i hi e he
  generalize S.G[i] = q at *
  generalize ((i + 1 : Nat) : Int) = z at *
  clear h
  unfold ptr at *
  go_enter Try.func22, Try.ntmps22
  go_wp2_with (go_at_call 27; refine c.mono ?_; rintro e w' ⟨rfl, rfl⟩)
  go_ret
  simp
theorem status_no {w : World} {v : Value} {id : Int} (c : Calls Try.prog 27 #[v, .int .i64 id] w fun r w' => r = .returned (.pointer none) ∧ w' = w) : Calls Try.prog 21 #[v, .int .i64 id] w fun r w' => r = .returned (.int .u8 0) ∧ w' = w := by
  go_enter Try.func21, Try.ntmps21
  go_wp2_with (go_at_call 27; refine c.mono ?_; rintro e w' ⟨rfl, rfl⟩)
  go_ret
  simp
theorem steps_no {w : World} {v : Value} {id : Int} (c : Calls Try.prog 27 #[v, .int .i64 id] w fun r w' => r = .returned (.pointer none) ∧ w' = w) : Calls Try.prog 22 #[v, .int .i64 id] w fun r w' => r = .returned (.int .i64 0) ∧ w' = w := by
  go_enter Try.func22, Try.ntmps22
  go_wp2_with (go_at_call 27; refine c.mono ?_; rintro e w' ⟨rfl, rfl⟩)
  go_ret
  simp
theorem wake_no {w : World} {v : Value} {id : Int} (c : Calls Try.prog 27 #[v, .int .i64 id] w fun r w' => r = .returned (.pointer none) ∧ w' = w) : Calls Try.prog 14 #[v, .int .i64 id] w fun r w' => r = .returned (.bool false) ∧ w' = w := by
  go_enter Try.func14, Try.ntmps14
  go_wp2_with (go_at_call 27; refine c.mono ?_; rintro e w' ⟨rfl, rfl⟩)
  go_ret
  simp
theorem add_no {w : World} {v t : Value} (h : NoS w v) : Calls Try.prog 9 #[v, t] w fun r w' => r = .returned (.tuple #[.int .i64 0, .int .i64 1]) ∧ w' = w := by
  have c := isMade_no h
  go_enter Try.func9, Try.ntmps9
  go_wp2_with (go_at_call 23; refine c.mono ?_; rintro e w' ⟨rfl, rfl⟩)
  go_ret2
  simp
theorem pick_no {w : World} {v : Value} (h : NoS w v) (p : Int) : Calls Try.prog 10 #[v, .int .u64 p] w fun r w' => r = .returned (.tuple #[.int .i64 0, .int .u8 0, .bool false]) ∧ w' = w := by
  have c := isMade_no h
  go_enter Try.func10, Try.ntmps10
  go_wp2_with (go_at_call 23; refine c.mono ?_; rintro e w' ⟨rfl, rfl⟩)
  exact bodyPost_ret (v := .tuple #[.int .i64 0, .int .u8 0, .bool false]) (by simp [results, Try.results10, go_sem]) rfl ⟨rfl, rfl⟩
theorem ready_no {w : World} {v : Value} (h : NoS w v) : Calls Try.prog 18 #[v] w fun r w' => r = .returned (.slice none 0 0) ∧ w' = w := by
  have c := isMade_no h
  go_enter Try.func18, Try.ntmps18
  go_wp2_with (go_at_call 23; refine c.mono ?_; rintro e w' ⟨rfl, rfl⟩)
  go_ret
  simp
theorem blocked_no {w : World} {v : Value} (h : NoS w v) : Calls Try.prog 19 #[v] w fun r w' => r = .returned (.slice none 0 0) ∧ w' = w := by
  have c := isMade_no h
  go_enter Try.func19, Try.ntmps19
  go_wp2_with (go_at_call 23; refine c.mono ?_; rintro e w' ⟨rfl, rfl⟩)
  go_ret
  simp
def SS0 : SS := ⟨[], [], [], none, false⟩
theorem new_at (w : World) : Calls Try.prog 8 #[] w fun r w' => r = .returned (ptr w.heap.size) ∧ IsS w' w.heap.size w.heap.size SS0 ∧ Below w.heap.size w w' := by
  have y := Box.new w #[ptr w.heap.size, .slice none 0 0, .slice none 0 0, .slice none 0 0, .pointer none, .bool false] 63
  have bb := (Below.refl w.heap.size w).alloc (Nat.le_refl _) (.cells #[ptr w.heap.size, .slice none 0 0, .slice none 0 0, .slice none 0 0, .pointer none, .bool false] 63)
  go_enter Try.func8, Try.ntmps8
  go_wp2
  go_ret
  refine ⟨rfl, ⟨.slice none 0 0, .slice none 0 0, .slice none 0 0, ⟨⟨Nat.le_refl _, y, World.ownsRow_nil _ _ _ _, World.ownsRow_nil _ _ _ _, World.ownsRow_nil _ _ _ _, ?_, ?_, ?_⟩, ⟨rfl, List.nodup_nil, ?_, ?_⟩, ?_, ?_⟩⟩, bb⟩
  all_goals intros
  all_goals simp_all [SS0, Value.ownBlock]
end Go.Proofs.Ytjhhncbadkpbaaa
