/-
  DiskNone's walk: a disk that no call made.
-/
import Derived.Test.YtagnmmapnpcijaaAwake
namespace Go.Proofs.Ytagnmmapnpcijaa
open Go.RowKit

/-- Such a pointer is no disk's. -/
def NotMade (w : World) (p : Option Addr) : Prop := Calls Try.prog 36 #[.pointer p] w fun e w' => e = .returned (.bool false) ∧ w = w'
theorem none_read (p : Option Addr) (n : Int) (w : World) (h : NotMade w p) :
    Calls Try.prog 19 #[.pointer p, .int .i64 n] w fun e w' => e = .returned (.tuple #[.slice none 0 0, .int .i64 1]) ∧ w = w' := by
  unfold NotMade at h
  go_enter Try.func19, Try.ntmps19
  go_wp2_with fail
  refine h.mono ?_
  rintro e w' ⟨rfl, rfl⟩
  go_wp2
  go_ret2
  exact ⟨rfl, rfl⟩
theorem none_write (p : Option Addr) (n : Int) (a : Option Addr) (len cap : Nat) (w : World) (h : NotMade w p) :
    Calls Try.prog 10 #[.pointer p, .int .i64 n, .slice a len cap] w fun e w' => e = .returned (.int .i64 1) ∧ w = w' := by
  unfold NotMade at h
  go_enter Try.func10, Try.ntmps10
  go_wp2_with fail
  refine h.mono ?_
  rintro e w' ⟨rfl, rfl⟩
  go_wp2
  go_ret
  exact ⟨rfl, rfl⟩
theorem none_flush (p : Option Addr) (w : World) (h : NotMade w p) :
    Calls Try.prog 15 #[.pointer p] w fun e w' => e = .returned (.int .i64 1) ∧ w = w' := by
  unfold NotMade at h
  go_enter Try.func15, Try.ntmps15
  go_wp2_with fail
  refine h.mono ?_
  rintro e w' ⟨rfl, rfl⟩
  go_wp2
  go_ret
  exact ⟨rfl, rfl⟩
theorem none_may (p : Option Addr) (n : Int) (w : World) (h : NotMade w p) :
    Calls Try.prog 42 #[.pointer p, .int .i64 n] w fun e w' => e = .returned (.int .i64 1) ∧ w = w' := by
  unfold NotMade at h
  go_enter Try.func42, Try.ntmps42
  go_wp2_with fail
  refine h.mono ?_
  rintro e w' ⟨rfl, rfl⟩
  go_wp2
  go_ret
  exact ⟨rfl, rfl⟩
theorem none_crash (p : Option Addr) (n m : Int) (a : Option Addr) (len cap : Nat) (w : World) (h : NotMade w p) :
    Calls Try.prog 12 #[.pointer p, .slice a len cap, .int .i64 n, .int .u8 m] w fun e w' => e = .returned (.int .i64 1) ∧ w = w' := by
  unfold NotMade at h
  go_enter Try.func12, Try.ntmps12
  go_wp2_with fail
  refine h.mono ?_
  rintro e w' ⟨rfl, rfl⟩
  go_wp2
  go_ret
  exact ⟨rfl, rfl⟩
theorem none_size (p : Option Addr) (w : World) (h : NotMade w p) :
    Calls Try.prog 22 #[.pointer p] w fun e w' => e = .returned (.int .i64 0) ∧ w = w' := by
  unfold NotMade at h
  go_enter Try.func22, Try.ntmps22
  go_wp2_with fail
  refine h.mono ?_
  rintro e w' ⟨rfl, rfl⟩
  go_wp2
  go_ret
  exact ⟨rfl, rfl⟩
theorem none_writes (p : Option Addr) (w : World) (h : NotMade w p) :
    Calls Try.prog 14 #[.pointer p] w fun e w' => e = .returned (.int .i64 0) ∧ w = w' := by
  unfold NotMade at h
  go_enter Try.func14, Try.ntmps14
  go_wp2_with fail
  refine h.mono ?_
  rintro e w' ⟨rfl, rfl⟩
  go_wp2
  go_ret
  exact ⟨rfl, rfl⟩
theorem none_pending (p : Option Addr) (w : World) (h : NotMade w p) :
    Calls Try.prog 23 #[.pointer p] w fun e w' => e = .returned (.slice none 0 0) ∧ w = w' := by
  unfold NotMade at h
  go_enter Try.func23, Try.ntmps23
  go_wp2_with fail
  refine h.mono ?_
  rintro e w' ⟨rfl, rfl⟩
  go_wp2
  go_ret
  exact ⟨rfl, rfl⟩
theorem none_image (p : Option Addr) (w : World) (h : NotMade w p) :
    Calls Try.prog 24 #[.pointer p] w fun e w' => e = .returned (.slice none 0 0) ∧ w = w' := by
  unfold NotMade at h
  go_enter Try.func24, Try.ntmps24
  go_wp2_with fail
  refine h.mono ?_
  rintro e w' ⟨rfl, rfl⟩
  go_wp2
  go_ret
  exact ⟨rfl, rfl⟩
theorem none_copy (p : Option Addr) (w : World) (h : NotMade w p) :
    Calls Try.prog 17 #[.pointer p] w fun e w' => e = .returned (.pointer none) ∧ w = w' := by
  unfold NotMade at h
  go_enter Try.func17, Try.ntmps17
  go_wp2_with fail
  refine h.mono ?_
  rintro e w' ⟨rfl, rfl⟩
  go_wp2
  go_ret
  exact ⟨rfl, rfl⟩
theorem none_arm (p : Option Addr) (n : Int) (w : World) (h : NotMade w p) :
    Calls Try.prog 18 #[.pointer p, .int .i64 n] w fun e w' => e = .returned (.int .i64 1) ∧ w = w' := by
  have c := none_may p n w h
  go_enter Try.func18, Try.ntmps18
  go_wp2_with fail
  refine c.mono ?_
  rintro e w' ⟨rfl, rfl⟩
  go_wp2
  go_ret
  exact ⟨rfl, rfl⟩
theorem none_fail (p : Option Addr) (n : Int) (w : World) (h : NotMade w p) :
    Calls Try.prog 20 #[.pointer p, .int .i64 n] w fun e w' => e = .returned (.int .i64 1) ∧ w = w' := by
  have c := none_may p n w h
  go_enter Try.func20, Try.ntmps20
  go_wp2_with fail
  refine c.mono ?_
  rintro e w' ⟨rfl, rfl⟩
  go_wp2
  go_ret
  exact ⟨rfl, rfl⟩

set_option maxRecDepth 100000 in
set_option maxHeartbeats 4000000 in
theorem none_any (n : Int) (a : Option Addr) (nb cb : Nat) (ak : Option Addr) (nk ck : Nat) (w : World) :
    Calls Try.prog 6 #[.int .i64 n, .slice a nb cb, .slice ak nk ck] w fun e w' => e = .returned (.bool true) ∧ Below w.heap.size w w' := by
  have B1 := (Below.refl w.heap.size w).alloc (Nat.le_refl _) (.cells #[.pointer none, .slice none 0 0, .slice none 0 0, .int .i64 0, .bool false, .bool false, .int .i64 0, .bool false, .int .i64 0] 69)
  have x1 := Box.new w #[.pointer none, .slice none 0 0, .slice none 0 0, .int .i64 0, .bool false, .bool false, .int .i64 0, .bool false, .int .i64 0] 69
  have B2 := B1.alloc B1.size (.cells #[.pointer none, .pointer (some ⟨w.heap.size, 0, none⟩)] 22)
  have x2 := x1.alloc (.cells #[.pointer none, .pointer (some ⟨w.heap.size, 0, none⟩)] 22)
  have y2 := Box.new (w.alloc (.cells #[.pointer none, .slice none 0 0, .slice none 0 0, .int .i64 0, .bool false, .bool false, .int .i64 0, .bool false, .int .i64 0] 69)) #[.pointer none, .pointer (some ⟨w.heap.size, 0, none⟩)] 22
  have s1 : (w.alloc (.cells #[.pointer none, .slice none 0 0, .slice none 0 0, .int .i64 0, .bool false, .bool false, .int .i64 0, .bool false, .int .i64 0] 69)).heap.size = w.heap.size + 1 := by simp
  rw [s1] at y2
  obtain ⟨W, hW⟩ : ∃ W, W = (w.alloc (.cells #[.pointer none, .slice none 0 0, .slice none 0 0, .int .i64 0, .bool false, .bool false, .int .i64 0, .bool false, .int .i64 0] 69)).alloc (.cells #[.pointer none, .pointer (some ⟨w.heap.size, 0, none⟩)] 22) := ⟨_, rfl⟩
  rw [← hW] at B2 x2 y2
  have HW : Hid _ := hW
  have n0 : NotMade W none := isMade_none W
  have n1 : NotMade W (some ⟨w.heap.size, 0, none⟩) := isMade_zero w.heap.size W (x2.cell 0)
  have y0 := y2.cell 0
  have y1 := y2.cell 1
  simp only [List.getElem?_toArray, List.getElem?_cons_zero, List.getElem?_cons_succ] at y0 y1
  clear hW B1 x1 s1 x2
  go_enter Try.func6, Try.ntmps6
  go_wp2_with fail
  rw [← HW.out]
  clear HW
  refine wp_loop_rounds 3 ?_
  rw [rounds_succ]
  go_wp2_with fail
  refine (none_read none n W n0).mono ?_
  rintro e w' ⟨rfl, rfl⟩
  go_wp2_with fail
  refine (none_write none n a nb cb W n0).mono ?_
  rintro e w' ⟨rfl, rfl⟩
  go_wp2_with fail
  refine (none_flush none W n0).mono ?_
  rintro e w' ⟨rfl, rfl⟩
  go_wp2_with fail
  refine (none_arm none n W n0).mono ?_
  rintro e w' ⟨rfl, rfl⟩
  go_wp2_with fail
  refine (none_fail none n W n0).mono ?_
  rintro e w' ⟨rfl, rfl⟩
  go_wp2_with fail
  refine (none_crash none n 1 ak nk ck W n0).mono ?_
  rintro e w' ⟨rfl, rfl⟩
  go_wp2_with fail
  refine (none_size none W n0).mono ?_
  rintro e w' ⟨rfl, rfl⟩
  go_wp2_with fail
  refine (none_writes none W n0).mono ?_
  rintro e w' ⟨rfl, rfl⟩
  go_wp2_with fail
  refine (none_pending none W n0).mono ?_
  rintro e w' ⟨rfl, rfl⟩
  go_wp2_with fail
  refine (none_image none W n0).mono ?_
  rintro e w' ⟨rfl, rfl⟩
  go_wp2_with fail
  refine (none_copy none W n0).mono ?_
  rintro e w' ⟨rfl, rfl⟩
  go_wp2_with fail
  rw [rounds_succ]
  go_wp2_with fail
  refine (none_read (some ⟨w.heap.size, 0, none⟩) n W n1).mono ?_
  rintro e w' ⟨rfl, rfl⟩
  go_wp2_with fail
  refine (none_write (some ⟨w.heap.size, 0, none⟩) n a nb cb W n1).mono ?_
  rintro e w' ⟨rfl, rfl⟩
  go_wp2_with fail
  refine (none_flush (some ⟨w.heap.size, 0, none⟩) W n1).mono ?_
  rintro e w' ⟨rfl, rfl⟩
  go_wp2_with fail
  refine (none_arm (some ⟨w.heap.size, 0, none⟩) n W n1).mono ?_
  rintro e w' ⟨rfl, rfl⟩
  go_wp2_with fail
  refine (none_fail (some ⟨w.heap.size, 0, none⟩) n W n1).mono ?_
  rintro e w' ⟨rfl, rfl⟩
  go_wp2_with fail
  refine (none_crash (some ⟨w.heap.size, 0, none⟩) n 1 ak nk ck W n1).mono ?_
  rintro e w' ⟨rfl, rfl⟩
  go_wp2_with fail
  refine (none_size (some ⟨w.heap.size, 0, none⟩) W n1).mono ?_
  rintro e w' ⟨rfl, rfl⟩
  go_wp2_with fail
  refine (none_writes (some ⟨w.heap.size, 0, none⟩) W n1).mono ?_
  rintro e w' ⟨rfl, rfl⟩
  go_wp2_with fail
  refine (none_pending (some ⟨w.heap.size, 0, none⟩) W n1).mono ?_
  rintro e w' ⟨rfl, rfl⟩
  go_wp2_with fail
  refine (none_image (some ⟨w.heap.size, 0, none⟩) W n1).mono ?_
  rintro e w' ⟨rfl, rfl⟩
  go_wp2_with fail
  refine (none_copy (some ⟨w.heap.size, 0, none⟩) W n1).mono ?_
  rintro e w' ⟨rfl, rfl⟩
  go_wp2_with fail
  rw [rounds_succ]
  go_wp2_with fail
  refine (awake_any W).mono ?_
  rintro e w3 ⟨rfl, b3⟩
  have B3 := B2.trans (b3.mono B2.size)
  go_wp2
  go_ret
  exact ⟨rfl, B3⟩
end Go.Proofs.Ytagnmmapnpcijaa
