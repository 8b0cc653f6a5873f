/-
  The law's own 'does': the calls that change the disk and tell an error.
-/
import Derived.Test.YtagnmmapnpcijaaSit
namespace Go.Proofs.Ytagnmmapnpcijaa
open Go.RowKit

variable {K : List (Nat × Obj)}

/-- both disks, the same -/
def Both (K : List (Nat × Obj)) (w0 w : World) (g : Nat) (D : DS) (v : Value) : Prop :=
  ∃ (F : Nat → Prop) (a1 a2 : Option Addr) (n1 c1 n2 c2 : Nat), v = .agg (refA a1 a2 n1 c1 n2 c2 D) ∧ IsDisk w g D F ∧ (∀ i, F i → w0.heap.size ≤ i) ∧ Below w0.heap.size w0 w ∧ RD w (fun i => ¬ F i) a1 a2 n1 c1 n2 c2 D ∧ (∀ p ∈ K, w.heap[p.1]? = some p.2 ∧ ¬ F p.1)

def zero49 : Array Value := #[.slice none 0 0, .slice none 0 0, .int .i64 0, .bool false, .int .i64 0, .int .i64 0]
theorem RdBl.low {w0 w : World} {a : Option Addr} {ks : List Bool} {nk : Nat} (h : RdBl w0 a ks) (hl : ks.length = nk) (B : Below w0.heap.size w0 w) (kl : ∀ ad, a = some ad → 0 < nk → ad.block < w0.heap.size) : RdBl w a ks := by
  intro h0
  obtain ⟨p, o, rfl, hc⟩ := h h0
  have hb : p < w0.heap.size := kl _ rfl (by omega)
  exact ⟨p, o, rfl, fun j hj => (World.cell?_of_block (a := ⟨p, o + j, none⟩) (B.block p hb)).trans (hc j hj)⟩
/-- where 'does' starts -/
theorem sit_start {w0 w : World} {g : Nat} {D : DS} {F : Nat → Prop} (hd : IsDisk w g D F) (f0 : ∀ i, F i → w0.heap.size ≤ i) (B : Below w0.heap.size w0 w) (kk : ∀ p ∈ K, w.heap[p.1]? = some p.2 ∧ ¬ F p.1) (op : Array Value) (v z : Array Value) :
    Sit K w0 ((((w.alloc (.cells v 49)).alloc (.cells op 53)).alloc (.cells z 49)).alloc (.cells v 49)) g w.heap.size D v op z v F ∧ Below w.heap.size w ((((w.alloc (.cells v 49)).alloc (.cells op 53)).alloc (.cells z 49)).alloc (.cells v 49)) := by
  have B1 := ((((Below.refl w.heap.size w).alloc (Nat.le_refl _) (.cells v 49)).alloc (by simp) (.cells op 53)).alloc (by simp; omega) (.cells z 49)).alloc (by simp; omega) (.cells v 49)
  refine ⟨⟨hd.below B1, f0, B.trans (B1.mono B.size), B.size, fun i h1 _ hi => by have := hd.flt i hi; omega, ?_, ?_, ?_, ?_, fun p hp => ?_⟩, B1⟩
  · exact (((Box.new w v 49).alloc _).alloc _).alloc _
  · have := (((Box.new (w.alloc (.cells v 49)) op 53)).alloc (.cells z 49)).alloc (.cells v 49)
    simpa using this
  · have := ((Box.new ((w.alloc (.cells v 49)).alloc (.cells op 53)) z 49)).alloc (.cells v 49)
    simpa using this
  · have := (Box.new (((w.alloc (.cells v 49)).alloc (.cells op 53)).alloc (.cells z 49)) v 49)
    simpa using this
  · have lt : p.1 < w.heap.size := (Array.getElem?_eq_some_iff.1 (kk p hp).1).1
    exact ⟨(B1.block p.1 lt).trans (kk p hp).1, (kk p hp).2, lt⟩

set_option maxRecDepth 100000 in
theorem does_flush {w0 w : World} {g : Nat} {D : DS} {v : Value} (h : Both K w0 w g D v) (n sz b : Int) (ak : Option Addr) (nk ck : Nat) (m : Int) :
    Calls Try.prog 28 #[.pointer (some ⟨g, 0, none⟩), v, .agg #[.int .i64 2, .int .i64 n, .int .i64 sz, .int .i64 b, .slice ak nk ck, .int .u8 m]] w fun r w' => ∃ v', r = .returned (.tuple #[v', .bool true]) ∧ Both K w0 w' g D.flush v' := by
  obtain ⟨F, a1, a2, n1, c1, n2, c2, rfl, hd, f0, B, R, kk⟩ := h
  obtain ⟨s0, B0⟩ := sit_start hd f0 B kk #[.int .i64 2, .int .i64 n, .int .i64 sz, .int .i64 b, .slice ak nk ck, .int .u8 m] (refA a1 a2 n1 c1 n2 c2 D) zero49
  have R0 := R.below B0
  have cd := flush_at s0.d
  unfold refA zero49 at s0 R0 cd
  clear kk hd f0 B R B0
  unfold refA
  go_enter Try.func28, Try.ntmps28
  go_wp2_with fail
  refine cd.mono ?_
  rintro r w1 ⟨rfl, hd1, u1⟩
  have s1 := s0.upd hd1 (fun i h => .inl h) u1
  have R1 := R0.upd u1 (fun i h => .inl h)
  clear cd s0 R0 hd1 u1
  have cr := rflushD R1 (fun i hi hF => by have := s1.d.flt i hF; omega)
  unfold refA at cr
  obtain ⟨bx, hbx⟩ : ∃ bx, bx = w.heap.size := ⟨_, rfl⟩
  rw [← hbx] at s1
  rw [← hbx]
  clear hbx
  obtain ⟨p0, p1, p2, p3, p4, p5⟩ := s1.b4.all6
  obtain ⟨q0, q1, q2, q3, q4, q5⟩ := s1.b5.all6
  have S1 : Hid _ := s1
  have HR1 : Hid _ := R1
  clear s1 R1
  go_wp2_with fail
  refine cr.mono ?_
  rintro r w2 ⟨a1', a2', c1', n2', c2', rfl, R2, b2⟩
  have s2 := S1.out.below b2
  clear cr S1 HR1 b2 p0 p1 p2 p3 p4 p5 q0 q1 q2 q3 q4 q5
  have s3 := s2.set8 (.slice a1' n1 c1') (.slice a2' n2' c2') (.int .i64 (D.flush.n : Int)) (.bool D.flush.gone) (.int .i64 (fuseI D.flush.arm)) (.int .i64 (fuseI D.flush.fail))
  have R3 := R2.set6 s2.b8 (.slice a1' n1 c1') (.slice a2' n2' c2') (.int .i64 (D.flush.n : Int)) (.bool D.flush.gone) (.int .i64 (fuseI D.flush.arm)) (.int .i64 (fuseI D.flush.fail))
  have s4 := s3.set6 (.slice a1' n1 c1') (.slice a2' n2' c2') (.int .i64 (D.flush.n : Int)) (.bool D.flush.gone) (.int .i64 (fuseI D.flush.arm)) (.int .i64 (fuseI D.flush.fail))
  have R4 := R3.set6 s3.b6 (.slice a1' n1 c1') (.slice a2' n2' c2') (.int .i64 (D.flush.n : Int)) (.bool D.flush.gone) (.int .i64 (fuseI D.flush.arm)) (.int .i64 (fuseI D.flush.fail))
  obtain ⟨p0, p1, p2, p3, p4, p5⟩ := s2.b6.all6
  obtain ⟨q0, q1, q2, q3, q4, q5⟩ := s2.b8.all6
  have f0 := s2.b6.frozen 0
  have e0 := s2.b8.frozen 0
  have f1 := s2.b6.frozen 1
  have e1 := s2.b8.frozen 1
  have f2 := s2.b6.frozen 2
  have e2 := s2.b8.frozen 2
  have f3 := s2.b6.frozen 3
  have e3 := s2.b8.frozen 3
  have f4 := s2.b6.frozen 4
  have e4 := s2.b8.frozen 4
  have f5 := s2.b6.frozen 5
  have e5 := s2.b8.frozen 5
  have S4 : Hid _ := s4
  have HR4 : Hid _ := R4
  clear s2 s3 s4 R2 R3 R4
  rw [show bx + 1 + 1 + 1 = bx + 3 from rfl, show bx + 1 + 1 = bx + 2 from rfl]
  go_wp2
  refine bodyPost_ret (v := .tuple #[.agg #[.slice a1' n1 c1', .slice a2' n2' c2', .int .i64 (D.flush.n : Int), .bool D.flush.gone, .int .i64 (fuseI D.flush.arm), .int .i64 (fuseI D.flush.fail)], .bool true]) (hd := rfl) (hR := ⟨_, rfl, F, a1', a2', n1, c1', n2', c2', rfl, S4.out.d, S4.out.f0, S4.out.bel, HR4.out, S4.out.kk⟩) (hr := ?_)
  simp [results, Try.results28, go_sem, p0, p1, p2, p3, p4, p5]

set_option maxRecDepth 100000 in
theorem does_arm {w0 w : World} {g : Nat} {D : DS} {v : Value} (h : Both K w0 w g D v) (n sz b : Int) (ak : Option Addr) (nk ck : Nat) (m : Int) (hn : n ≤ 9223372036854775807) :
    Calls Try.prog 28 #[.pointer (some ⟨g, 0, none⟩), v, .agg #[.int .i64 4, .int .i64 n, .int .i64 sz, .int .i64 b, .slice ak nk ck, .int .u8 m]] w fun r w' => ∃ v', r = .returned (.tuple #[v', .bool true]) ∧ Both K w0 w' g (D.armed n) v' := by
  obtain ⟨F, a1, a2, n1, c1, n2, c2, rfl, hd, f0, B, R, kk⟩ := h
  obtain ⟨s0, B0⟩ := sit_start hd f0 B kk #[.int .i64 4, .int .i64 n, .int .i64 sz, .int .i64 b, .slice ak nk ck, .int .u8 m] (refA a1 a2 n1 c1 n2 c2 D) zero49
  have R0 := R.below B0
  have cd := arm_at s0.d n hn
  unfold refA zero49 at s0 R0 cd
  clear kk hd f0 B R B0
  unfold refA
  go_enter Try.func28, Try.ntmps28
  go_wp2_with fail
  refine cd.mono ?_
  rintro r w1 ⟨rfl, hd1, u1⟩
  have s1 := s0.upd hd1 (fun i h => .inl h) u1
  have R1 := R0.upd u1 (fun i h => .inl h)
  clear cd s0 R0 hd1 u1
  have cr := rarmD R1 n hn
  unfold refA at cr
  obtain ⟨bx, hbx⟩ : ∃ bx, bx = w.heap.size := ⟨_, rfl⟩
  rw [← hbx] at s1
  rw [← hbx]
  clear hbx
  obtain ⟨p0, p1, p2, p3, p4, p5⟩ := s1.b4.all6
  obtain ⟨q0, q1, q2, q3, q4, q5⟩ := s1.b5.all6
  have S1 : Hid _ := s1
  have HR1 : Hid _ := R1
  clear s1 R1
  go_wp2_with fail
  refine cr.mono ?_
  rintro r w2 ⟨rfl, R2, b2⟩
  have s2 := S1.out.below b2
  clear cr S1 HR1 b2 p0 p1 p2 p3 p4 p5 q0 q1 q2 q3 q4 q5
  have s3 := s2.set8 (.slice a1 n1 c1) (.slice a2 n2 c2) (.int .i64 ((D.armed n).n : Int)) (.bool (D.armed n).gone) (.int .i64 (fuseI (D.armed n).arm)) (.int .i64 (fuseI (D.armed n).fail))
  have R3 := R2.set6 s2.b8 (.slice a1 n1 c1) (.slice a2 n2 c2) (.int .i64 ((D.armed n).n : Int)) (.bool (D.armed n).gone) (.int .i64 (fuseI (D.armed n).arm)) (.int .i64 (fuseI (D.armed n).fail))
  have s4 := s3.set6 (.slice a1 n1 c1) (.slice a2 n2 c2) (.int .i64 ((D.armed n).n : Int)) (.bool (D.armed n).gone) (.int .i64 (fuseI (D.armed n).arm)) (.int .i64 (fuseI (D.armed n).fail))
  have R4 := R3.set6 s3.b6 (.slice a1 n1 c1) (.slice a2 n2 c2) (.int .i64 ((D.armed n).n : Int)) (.bool (D.armed n).gone) (.int .i64 (fuseI (D.armed n).arm)) (.int .i64 (fuseI (D.armed n).fail))
  obtain ⟨p0, p1, p2, p3, p4, p5⟩ := s2.b6.all6
  obtain ⟨q0, q1, q2, q3, q4, q5⟩ := s2.b8.all6
  have f0 := s2.b6.frozen 0
  have e0 := s2.b8.frozen 0
  have f1 := s2.b6.frozen 1
  have e1 := s2.b8.frozen 1
  have f2 := s2.b6.frozen 2
  have e2 := s2.b8.frozen 2
  have f3 := s2.b6.frozen 3
  have e3 := s2.b8.frozen 3
  have f4 := s2.b6.frozen 4
  have e4 := s2.b8.frozen 4
  have f5 := s2.b6.frozen 5
  have e5 := s2.b8.frozen 5
  have S4 : Hid _ := s4
  have HR4 : Hid _ := R4
  clear s2 s3 s4 R2 R3 R4
  rw [show bx + 1 + 1 + 1 = bx + 3 from rfl, show bx + 1 + 1 = bx + 2 from rfl]
  go_wp2
  refine bodyPost_ret (v := .tuple #[.agg #[.slice a1 n1 c1, .slice a2 n2 c2, .int .i64 ((D.armed n).n : Int), .bool (D.armed n).gone, .int .i64 (fuseI (D.armed n).arm), .int .i64 (fuseI (D.armed n).fail)], .bool true]) (hd := rfl) (hR := ⟨_, rfl, F, a1, a2, n1, c1, n2, c2, rfl, S4.out.d, S4.out.f0, S4.out.bel, HR4.out, S4.out.kk⟩) (hr := ?_)
  simp [results, Try.results28, go_sem, p0, p1, p2, p3, p4, p5]

set_option maxRecDepth 100000 in
theorem does_fail {w0 w : World} {g : Nat} {D : DS} {v : Value} (h : Both K w0 w g D v) (n sz b : Int) (ak : Option Addr) (nk ck : Nat) (m : Int) (hn : n ≤ 9223372036854775807) :
    Calls Try.prog 28 #[.pointer (some ⟨g, 0, none⟩), v, .agg #[.int .i64 5, .int .i64 n, .int .i64 sz, .int .i64 b, .slice ak nk ck, .int .u8 m]] w fun r w' => ∃ v', r = .returned (.tuple #[v', .bool true]) ∧ Both K w0 w' g (D.failing n) v' := by
  obtain ⟨F, a1, a2, n1, c1, n2, c2, rfl, hd, f0, B, R, kk⟩ := h
  obtain ⟨s0, B0⟩ := sit_start hd f0 B kk #[.int .i64 5, .int .i64 n, .int .i64 sz, .int .i64 b, .slice ak nk ck, .int .u8 m] (refA a1 a2 n1 c1 n2 c2 D) zero49
  have R0 := R.below B0
  have cd := fail_at s0.d n hn
  unfold refA zero49 at s0 R0 cd
  clear kk hd f0 B R B0
  unfold refA
  go_enter Try.func28, Try.ntmps28
  go_wp2_with fail
  refine cd.mono ?_
  rintro r w1 ⟨rfl, hd1, u1⟩
  have s1 := s0.upd hd1 (fun i h => .inl h) u1
  have R1 := R0.upd u1 (fun i h => .inl h)
  clear cd s0 R0 hd1 u1
  have cr := rfailD R1 n hn
  unfold refA at cr
  obtain ⟨bx, hbx⟩ : ∃ bx, bx = w.heap.size := ⟨_, rfl⟩
  rw [← hbx] at s1
  rw [← hbx]
  clear hbx
  obtain ⟨p0, p1, p2, p3, p4, p5⟩ := s1.b4.all6
  obtain ⟨q0, q1, q2, q3, q4, q5⟩ := s1.b5.all6
  have S1 : Hid _ := s1
  have HR1 : Hid _ := R1
  clear s1 R1
  go_wp2_with fail
  refine cr.mono ?_
  rintro r w2 ⟨rfl, R2, b2⟩
  have s2 := S1.out.below b2
  clear cr S1 HR1 b2 p0 p1 p2 p3 p4 p5 q0 q1 q2 q3 q4 q5
  have s3 := s2.set8 (.slice a1 n1 c1) (.slice a2 n2 c2) (.int .i64 ((D.failing n).n : Int)) (.bool (D.failing n).gone) (.int .i64 (fuseI (D.failing n).arm)) (.int .i64 (fuseI (D.failing n).fail))
  have R3 := R2.set6 s2.b8 (.slice a1 n1 c1) (.slice a2 n2 c2) (.int .i64 ((D.failing n).n : Int)) (.bool (D.failing n).gone) (.int .i64 (fuseI (D.failing n).arm)) (.int .i64 (fuseI (D.failing n).fail))
  have s4 := s3.set6 (.slice a1 n1 c1) (.slice a2 n2 c2) (.int .i64 ((D.failing n).n : Int)) (.bool (D.failing n).gone) (.int .i64 (fuseI (D.failing n).arm)) (.int .i64 (fuseI (D.failing n).fail))
  have R4 := R3.set6 s3.b6 (.slice a1 n1 c1) (.slice a2 n2 c2) (.int .i64 ((D.failing n).n : Int)) (.bool (D.failing n).gone) (.int .i64 (fuseI (D.failing n).arm)) (.int .i64 (fuseI (D.failing n).fail))
  obtain ⟨p0, p1, p2, p3, p4, p5⟩ := s2.b6.all6
  obtain ⟨q0, q1, q2, q3, q4, q5⟩ := s2.b8.all6
  have f0 := s2.b6.frozen 0
  have e0 := s2.b8.frozen 0
  have f1 := s2.b6.frozen 1
  have e1 := s2.b8.frozen 1
  have f2 := s2.b6.frozen 2
  have e2 := s2.b8.frozen 2
  have f3 := s2.b6.frozen 3
  have e3 := s2.b8.frozen 3
  have f4 := s2.b6.frozen 4
  have e4 := s2.b8.frozen 4
  have f5 := s2.b6.frozen 5
  have e5 := s2.b8.frozen 5
  have S4 : Hid _ := s4
  have HR4 : Hid _ := R4
  clear s2 s3 s4 R2 R3 R4
  rw [show bx + 1 + 1 + 1 = bx + 3 from rfl, show bx + 1 + 1 = bx + 2 from rfl]
  go_wp2
  refine bodyPost_ret (v := .tuple #[.agg #[.slice a1 n1 c1, .slice a2 n2 c2, .int .i64 ((D.failing n).n : Int), .bool (D.failing n).gone, .int .i64 (fuseI (D.failing n).arm), .int .i64 (fuseI (D.failing n).fail)], .bool true]) (hd := rfl) (hR := ⟨_, rfl, F, a1, a2, n1, c1, n2, c2, rfl, S4.out.d, S4.out.f0, S4.out.bel, HR4.out, S4.out.kk⟩) (hr := ?_)
  simp [results, Try.results28, go_sem, p0, p1, p2, p3, p4, p5]

set_option maxRecDepth 100000 in
theorem does_crash {w0 w : World} {g : Nat} {D : DS} {v : Value} (h : Both K w0 w g D v) (n sz b : Int) (ak : Option Addr) (nk ck : Nat) (m : Nat) (ks : List Bool) (hm : m < 256) (hks : ks.length = nk) (hnk : nk ≤ 9223372036854775807) (kr : RdBl w0 ak ks) (kl : ∀ ad, ak = some ad → 0 < nk → ad.block < w0.heap.size) (hlim : D.uf.length ≤ 1000000) :
    Calls Try.prog 28 #[.pointer (some ⟨g, 0, none⟩), v, .agg #[.int .i64 6, .int .i64 n, .int .i64 sz, .int .i64 b, .slice ak nk ck, .int .u8 (m : Int)]] w fun r w' => ∃ v', r = .returned (.tuple #[v', .bool true]) ∧ Both K w0 w' g (D.crash ks n m) v' := by
  obtain ⟨F, a1, a2, n1, c1, n2, c2, rfl, hd, f0, B, R, kk⟩ := h
  obtain ⟨s0, B0⟩ := sit_start hd f0 B kk #[.int .i64 6, .int .i64 n, .int .i64 sz, .int .i64 b, .slice ak nk ck, .int .u8 (m : Int)] (refA a1 a2 n1 c1 n2 c2 D) zero49
  have R0 := R.below B0
  have cd := crash_at s0.d ak nk ck ks n m hm hks hnk (kr.low hks s0.bel kl) (fun ad h h0 hF => by have := kl ad h h0; have := s0.f0 _ hF; omega)
  unfold refA zero49 at s0 R0 cd
  clear kk hd f0 B R B0
  unfold refA
  go_enter Try.func28, Try.ntmps28
  go_wp2_with fail
  refine cd.mono ?_
  rintro r w1 ⟨rfl, hd1, u1⟩
  have s1 := s0.upd hd1 (fun i h => .inl h) u1
  have R1 := R0.upd u1 (fun i h => .inl h)
  clear cd s0 R0 hd1 u1
  have cr := rcrashD R1 (fun i hi hF => by have := s1.d.flt i hF; omega) ak nk ck ks n m hm hks hnk (kr.low hks s1.bel kl) hlim
  unfold refA at cr
  obtain ⟨bx, hbx⟩ : ∃ bx, bx = w.heap.size := ⟨_, rfl⟩
  rw [← hbx] at s1
  rw [← hbx]
  clear hbx
  obtain ⟨p0, p1, p2, p3, p4, p5⟩ := s1.b4.all6
  obtain ⟨q0, q1, q2, q3, q4, q5⟩ := s1.b5.all6
  have S1 : Hid _ := s1
  have HR1 : Hid _ := R1
  clear s1 R1
  go_wp2_with fail
  refine cr.mono ?_
  rintro r w2 ⟨a1', c1', rfl, R2, b2⟩
  have s2 := S1.out.below b2
  clear cr S1 HR1 b2 p0 p1 p2 p3 p4 p5 q0 q1 q2 q3 q4 q5
  have s3 := s2.set8 (.slice a1' n1 c1') (.slice none 0 0) (.int .i64 ((D.crash ks n m).n : Int)) (.bool (D.crash ks n m).gone) (.int .i64 (fuseI (D.crash ks n m).arm)) (.int .i64 (fuseI (D.crash ks n m).fail))
  have R3 := R2.set6 s2.b8 (.slice a1' n1 c1') (.slice none 0 0) (.int .i64 ((D.crash ks n m).n : Int)) (.bool (D.crash ks n m).gone) (.int .i64 (fuseI (D.crash ks n m).arm)) (.int .i64 (fuseI (D.crash ks n m).fail))
  have s4 := s3.set6 (.slice a1' n1 c1') (.slice none 0 0) (.int .i64 ((D.crash ks n m).n : Int)) (.bool (D.crash ks n m).gone) (.int .i64 (fuseI (D.crash ks n m).arm)) (.int .i64 (fuseI (D.crash ks n m).fail))
  have R4 := R3.set6 s3.b6 (.slice a1' n1 c1') (.slice none 0 0) (.int .i64 ((D.crash ks n m).n : Int)) (.bool (D.crash ks n m).gone) (.int .i64 (fuseI (D.crash ks n m).arm)) (.int .i64 (fuseI (D.crash ks n m).fail))
  obtain ⟨p0, p1, p2, p3, p4, p5⟩ := s2.b6.all6
  obtain ⟨q0, q1, q2, q3, q4, q5⟩ := s2.b8.all6
  have f0 := s2.b6.frozen 0
  have e0 := s2.b8.frozen 0
  have f1 := s2.b6.frozen 1
  have e1 := s2.b8.frozen 1
  have f2 := s2.b6.frozen 2
  have e2 := s2.b8.frozen 2
  have f3 := s2.b6.frozen 3
  have e3 := s2.b8.frozen 3
  have f4 := s2.b6.frozen 4
  have e4 := s2.b8.frozen 4
  have f5 := s2.b6.frozen 5
  have e5 := s2.b8.frozen 5
  have S4 : Hid _ := s4
  have HR4 : Hid _ := R4
  clear s2 s3 s4 R2 R3 R4
  rw [show bx + 1 + 1 + 1 = bx + 3 from rfl, show bx + 1 + 1 = bx + 2 from rfl]
  go_wp2
  refine bodyPost_ret (v := .tuple #[.agg #[.slice a1' n1 c1', .slice none 0 0, .int .i64 ((D.crash ks n m).n : Int), .bool (D.crash ks n m).gone, .int .i64 (fuseI (D.crash ks n m).arm), .int .i64 (fuseI (D.crash ks n m).fail)], .bool true]) (hd := rfl) (hR := ⟨_, rfl, F, a1', none, n1, c1', 0, 0, rfl, S4.out.d, S4.out.f0, S4.out.bel, HR4.out, S4.out.kk⟩) (hr := ?_)
  simp [results, Try.results28, go_sem, p0, p1, p2, p3, p4, p5]
end Go.Proofs.Ytagnmmapnpcijaa
