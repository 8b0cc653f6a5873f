/-
  NamesTells: names and paths are taken apart and put together just as the document defines; for every two texts and every list of texts, without a condition.
-/
import Derived.Test.YtcadnhjiodlpcaaDoorRows
import Derived.Test.YtcadnhjiodlpcaaDoorCards
import Derived.Test.YtcadnhjiodlpcaaDoorTie
import Derived.Test.YtcadnhjiodlpcaaDoorTel
import Derived.Test.YtcadnhjiodlpcaaDoorArz
import Derived.Test.YtcadnhjiodlpcaaDoorFactA
import Derived.Test.YtcadnhjiodlpcaaDoorFactB
import Derived.Test.YtcadnhjiodlpcaaDoorNamesTellsFactC
import Derived.Test.YtcadnhjiodlpcaaDoorNamesTellsFactD
import Derived.WalkKit
import Derived.ProofKit
import Derived.OpenShut
import Derived.ChangeOld
import Derived.ChangeMaps5
import Derived.Below
import Derived.Handed
import Derived.Lay
import Derived.LaidLaws
import Derived.SevenTiedAt
namespace Go.Proofs.YtcadnhjiodlpcaaDoor.namesTells
open Go.ChangeShapes Go.WideShapes Go.ChangeAt Go.RowKit Go.ChangeMaps
set_option linter.unusedVariables false

/-! ### the walk -/
theorem walk (s0 : ByteArray) (s1 : ByteArray) (a2 : Option Addr) (n2 c2 : Nat) (x2 : List Tx) (w : World) (hm : MaxL w) (ws0 : s0.size ≤ maxLen) (ws1 : s1.size ≤ maxLen) (hl2 : x2.length = n2) (hr2 : Ts w a2 x2) (hn2 : (n2 ≤ c2 ∧ c2 ≤ maxLen) ∧ ∀ z ∈ x2, z.length ≤ maxLen) :
    Calls Tryd.prog 4 #[.string s0, .string s1, .slice a2 n2 c2] w fun e w' => e = .returned (.bool true) ∧ Below w.heap.size w w' := by
  have h0 : s0.data.toList.length ≤ 9223372036854775807 := by
    have e := bs_size s0.data.toList
    rw [bs_data] at e
    unfold maxLen at ws0
    omega
  have h := tells_at (x := s0.data.toList) (y := s1.data.toList) (c := c2) hm hr2 (by unfold maxLen at hn2; omega) h0 (fun z hz => by have := hn2.2 z hz; unfold maxLen at this; exact this)
  rw [bs_data, bs_data, hl2] at h
  exact h

/-! ### the row -/
set_option maxRecDepth 100000 in
theorem lifted (os : Os) (started : os.Started) (H : Type) (enc : TypeId × Value → H) :
    ReturnsInHanded {} Tryd.checked os 4 .any (fun w args => (Rows.namesTellsSpec.pre enc Tryd.prog Tryd.f4 Rows.namesTellsRow.domain false w args ∧ laidMetH Tryd.prog Rows.namesTellsRow.laid w) ∧ sizedMet enc Tryd.prog Tryd.f4 (OpenSpec.ofChange Rows.namesTellsSpec) false w args)
      (Rows.namesTellsSpec.post enc Tryd.prog Tryd.f4 false true false false) := by
  refine returns_laid (C := Tryd.checked) (X := fun w _ => laidMetH Tryd.prog Rows.namesTellsRow.laid w) V.own started (by kernel_rfl) Tryd.func4
    (ChangeSpec.witness_shaped (enc := enc) (C := Tryd.checked) (os := os) (X := fun w _ => laidMetH Tryd.prog Rows.namesTellsRow.laid w) false (World.laidAll Tryd.prog os Rows.namesTellsRow.laid) #[.string ByteArray.empty, .string ByteArray.empty, .slice none 0 0] 8 (World.laidAll_os _ _ _)
      (World.shaped_of_ZipB (by kernel_rfl) (by kernel_rfl)) (by kernel_rfl) (by kernel_rfl) (by kernel_rfl)
      (by rw [MakeChecks.laidMetH_plain _ _ _ (by kernel_rfl)]; exact laidMet_laidAll _ (by kernel_rfl) (by kernel_rfl))) ?_
  intro W base args ds gs before hval0 hW hshape
  have hmx := maxL_of hshape
  have hval : ∀ (j : Nat) t v, Tryd.f4.params[j]? = some t → args[j]? = some v → Value.okWide Tryd.prog W .any base t v := hval0
  have hW' := hW
  obtain ⟨p, q, hA0, hV, rfl, hfz, hnd⟩ := hW
  have hA : DataW.TrodAll enc Tryd.prog W 0 (fun _ => true) true Tryd.f4.params.toList args.toList ds p := hA0
  rw [Tryd.params4] at hA hval
  obtain ⟨v0, vs0, d0, ds0, p0, q0, hargs, rfl, rfl, h0, r0⟩ := trodAll_cons hA
  obtain ⟨v1, vs1, d1, ds1, p1, q1, rfl, rfl, rfl, h1, r1⟩ := trodAll_cons r0
  obtain ⟨v2, vs2, d2, ds2, p2, q2, rfl, rfl, rfl, h2, r2⟩ := trodAll_cons r1
  obtain ⟨rfl, rfl, rfl⟩ := trodAll_nil r2
  obtain rfl : args = #[v0, v1, v2] := by cases args; simp_all
  obtain ⟨rfl, rfl⟩ := trodVars_none hV
  obtain ⟨s0, rfl, rfl, rfl, ws0⟩ := open_string Tryd.underlying9 (hval 0 9 v0 rfl rfl) h0
  obtain ⟨s1, rfl, rfl, rfl, ws1⟩ := open_string Tryd.underlying9 (hval 1 9 v1 rfl rfl) h1
  obtain ⟨a2, n2, c2, rfl⟩ := okWide_slice Tryd.underlying23 (hval 2 23 v2 rfl rfl)
  have k2 := h2
  have lt2 : ∀ x ∈ p2, x.block < W.heap.size := by obtain ⟨m, hm⟩ := k2; exact DataW.trod_lt m _ _ _ hm
  obtain ⟨x2, hl2, hr2, hn2⟩ : ∃ xs : List Tx, xs.length = n2 ∧ Ts W a2 xs ∧ (n2 ≤ c2 ∧ c2 ≤ maxLen) ∧ ∀ z ∈ xs, z.length ≤ maxLen := by
    obtain ⟨fuel, hf⟩ := h2
    obtain ⟨a', n', c', xs, hcs, hx⟩ := open_strz hf
    simp [Value.cells] at hcs
    obtain ⟨rfl, rfl, rfl⟩ := hcs
    exact ⟨xs, hx⟩
  clear hA0 hval0
  refine (walk s0 s1 a2 n2 c2 x2 W hmx ws0 ws1 hl2 hr2 hn2).mono fun e W' ⟨he, bel⟩ => ?_
  subst he
  exact ⟨_, rfl, _, _, _, [], _, [], hW', trodAll_mk1 (shut_bool Tryd.underlying4 _), (trodAll_cons_mk (shut_string Tryd.underlying9 ws0) (trodAll_cons_mk (shut_string Tryd.underlying9 ws1) (trodAll_cons_mk (Below.trod V.laidOut (by kernel_rfl) (of_decide_eq_true (by kernel_rfl)) k2 bel lt2) trodAll_mk0))), rfl, bel.frame _, fun h => by cases h⟩

theorem fnm : Tryd.pinned.checked.prog.funcNamed Rows.namesTellsRow.func = some 4 := by kernel_rfl
theorem both {a b : Bool} (h : a = true) (k : b = true) : (a && b) = true := by rw [h, k]; rfl
set_option maxRecDepth 100000 in
theorem closed : joinedFacts Tryd.pinned.checked.prog 4 Tryd.f4 Rows.namesTellsSpec Rows.namesTellsRow = true := by
  unfold joinedFacts
  exact both (both (both (both (both (both (both (both (both (both (both (both (both (both (both (both (both (both (both (both (both (both (both (both (both (both (both (both (both (both (both (by kernel_rfl) V.laidOut) V.rowed) (by kernel_rfl)) (by kernel_rfl)) (by kernel_rfl)) (by kernel_rfl)) (by kernel_rfl)) (by kernel_rfl)) inp) unf) rec) nmd) (by kernel_rfl)) (by kernel_rfl)) (by kernel_rfl)) (by kernel_rfl)) (by kernel_rfl)) (by kernel_rfl)) (by kernel_rfl)) (by kernel_rfl)) (by kernel_rfl)) (by kernel_rfl)) (by kernel_rfl)) (by kernel_rfl)) (by kernel_rfl)) (by kernel_rfl)) (by kernel_rfl)) (by kernel_rfl)) (by kernel_rfl)) (by kernel_rfl)) (by kernel_rfl)
theorem inst : Tryd.f4.isInstance Tryd.pinned.checked.prog Rows.namesTellsRow.origin Rows.namesTellsRow.targs := of_decide_eq_true (by kernel_rfl)
theorem wrap : Tryd.f4.isWrapper Tryd.pinned.checked.prog Rows.namesTellsRow.wrapper Rows.namesTellsRow.mainSum := (by unfold Func.isWrapper; first | (rw [if_pos (by decide +kernel)]; kernel_rfl) | (rw [if_neg (by decide +kernel)]; exact ⟨rfl, rfl⟩))
theorem over : Rows.namesTellsRow.holds Tryd.pinned (OpenSpec.ofChange Rows.namesTellsSpec) :=
  OpenClaim.holds_of_wide 4 Tryd.f4 rfl rfl rfl rfl rfl rfl rfl ⟨rfl, rfl, rfl, rfl, rfl⟩ rfl rfl rfl rfl rfl fnm Tryd.func4 closed inst wrap
    (fun os started H enc _ => lifted os started H enc)
/-! ### the card -/
theorem card : Claim7.holds Tryd.pinned (.plain (OpenSpec.ofChange Rows.namesTellsSpec)) Rows.namesTellsCard :=
  Claim7.holds_tied_plain_at .later [] [.data, .pinned] true (true, "61bccb138f0ec6b78a6e40cbda52a90131ffd5959dcc580e87a488595beeb8a9") false over (fun _ h => by cases h) (by kernel_rfl) (fun _ h => by cases h) namesTells_row_tie rfl ⟨rfl, rfl⟩ (by kernel_rfl) rfl
    (fun f fn hf hfn => by
      obtain rfl : f = 4 := Option.some.inj ((show Tryd.prog.funcNamed "ledgerstone/ledgerstonelaw21.NamesTells" = some 4 by kernel_rfl).symm.trans hf) |>.symm
      obtain rfl : fn = Tryd.f4 := (Option.some.inj (Tryd.func4.symm.trans hfn)).symm
      exact ⟨by kernel_rfl, fun j t ht => by
        rw [Tryd.params4] at ht
        have hm : t ∈ [9, 9, 23] := by simpa using Array.mem_of_getElem? ht
        have hall : ([9, 9, 23].all fun u => !Tryd.prog.wantsStandIn u) = true := by kernel_rfl
        exact (show Tryd.prog.wantsStandIn t = false by simpa using List.all_eq_true.1 hall t hm)⟩)
    (by kernel_rfl)
end Go.Proofs.YtcadnhjiodlpcaaDoor.namesTells
namespace Go.Proofs.YtcadnhjiodlpcaaDoor
theorem namesTells_holds : Rows.NamesTellsCardSaid := namesTells.card
#print axioms namesTells_holds
end Go.Proofs.YtcadnhjiodlpcaaDoor
