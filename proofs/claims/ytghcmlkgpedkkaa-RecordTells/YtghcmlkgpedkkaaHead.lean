/-
  Put of what is no right group; Head.
-/
import Derived.Test.YtghcmlkgpedkkaaPutB
import Derived.Test.YtghcmlkgpedkkaaGetB
namespace Go.Proofs.Ytghcmlkgpedkkaa
open Go.RowKit

set_option maxRecDepth 100000 in
theorem put_no (e s : Int) (a : Option Addr) (n cap : Nat) (is : List (Int × List UInt8)) (w : World) (hl : is.length = n) (hn : n * 32 ≤ 140737488355328) (hI : Imgs w a is) (hno : ¬ okGroup e s is) :
    Calls Try.prog 7 #[.agg #[.int .i64 e, .int .i64 s, .slice a n cap]] w fun r w' => r = .returned (.tuple #[.slice none 0 0, .int .i64 80]) ∧ Below w.heap.size w w' := by
  have B0 := (Below.refl w.heap.size w).alloc (Nat.le_refl _) (.cells #[.int .i64 e, .int .i64 s, .slice a n cap] 28)
  have c1 := rightGroup_at e s a n cap is _ hl hn (hI.below B0)
  have HNO : Hid _ := hno
  clear hno hI
  go_enter Try.func7, Try.ntmps7
  go_wp2_with fail
  refine c1.mono ?_
  rintro r w1 ⟨q, rfl, hq, hb1⟩
  have B1 := B0.trans (hb1.mono B0.size)
  cases q with
  | true => exact (HNO.out (hq.1 rfl)).elim
  | false =>
    clear hq c1 hb1
    go_wp2
    go_ret2
    exact ⟨rfl, B1⟩

/-- what Head tells -/
def HeadR (w : World) (xs : List UInt8) (r : Ending) (w' : World) : Prop :=
  (isHead xs ∧ r = .returned (.tuple #[.int .i64 (saidE xs : Int), .int .i64 (saidS xs : Int), .int .i64 ((saidEs xs).length : Int), .bool true]) ∧ Below w.heap.size w w') ∨
  (¬ isHead xs ∧ r = .returned (.tuple #[.int .i64 0, .int .i64 0, .int .i64 0, .bool false]) ∧ Below w.heap.size w w')

set_option maxRecDepth 100000 in
set_option maxHeartbeats 1000000 in
theorem head_at (a : Option Addr) (n cap : Nat) (xs : List UInt8) (w : World) (hl : xs.length = n) (hcap : n ≤ cap) (hmax : cap ≤ 9223372036854775807) (hr : Rd w a xs) : Calls Try.prog 23 #[.slice a n cap] w (HeadR w xs) := by
  have c := getHeading_at a n cap xs w hl hcap hmax hr
  clear hl
  go_enter Try.func23, Try.ntmps23
  go_wp2_with fail
  refine c.mono ?_
  rintro r w1 (⟨hhd, ah, ch, rfl, hEn, hb1⟩ | ⟨hhd, rfl, hb1⟩)
  · have hx : Hid (isHead xs) := hhd
    clear hhd c hEn
    have bh := Box.new w1 #[.int .i64 (saidE xs : Int), .int .i64 (saidS xs : Int), .slice ah (saidEs xs).length ch] 57
    have B1 := hb1.alloc hb1.size (.cells #[.int .i64 (saidE xs : Int), .int .i64 (saidS xs : Int), .slice ah (saidEs xs).length ch] 57)
    have y0 := bh.cell 0
    have y1 := bh.cell 1
    have y2 := bh.cell 2
    go_wp2_with fail
    go_quiet (fail)
    go_wp2
    refine bodyPost_ret (v := .tuple #[.int .i64 (saidE xs : Int), .int .i64 (saidS xs : Int), .int .i64 ((saidEs xs).length : Int), .bool true]) (by simp [results, Try.results23, go_sem]) rfl ?_
    exact .inl ⟨hx.out, rfl, ⟨B1.os, B1.tape, B1.output, B1.size, B1.block⟩⟩
  · have hx : Hid (¬ isHead xs) := hhd
    clear hhd c
    have bh := Box.new w1 #[.int .i64 0, .int .i64 0, .slice none 0 0] 57
    have B1 := hb1.alloc hb1.size (.cells #[.int .i64 0, .int .i64 0, .slice none 0 0] 57)
    have y0 := bh.cell 0
    have y1 := bh.cell 1
    have y2 := bh.cell 2
    go_wp2_with fail
    go_quiet (fail)
    go_wp2
    refine bodyPost_ret (v := .tuple #[.int .i64 0, .int .i64 0, .int .i64 0, .bool false]) (by simp [results, Try.results23, go_sem]) rfl ?_
    exact .inr ⟨hx.out, rfl, ⟨B1.os, B1.tape, B1.output, B1.size, B1.block⟩⟩
end Go.Proofs.Ytghcmlkgpedkkaa
