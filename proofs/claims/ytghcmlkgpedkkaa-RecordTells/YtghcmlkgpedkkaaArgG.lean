/-
  A group, as it comes in, and how long its images' data are at most.
-/
import Derived.Test.YtghcmlkgpedkkaaArgs
import Derived.SizedLaws
namespace Go.Proofs.Ytghcmlkgpedkkaa
open Go.ChangeShapes Go.WideShapes Go.ChangeAt Go.RowKit Go.Deep

theorem bytes38g : Try.prog.bytesOf 38 = 32 := by kernel_rfl
theorem bytes5g : Try.prog.bytesOf 5 = 1 := by kernel_rfl
theorem wsum {H : Type} {P : Program} {e : TypeId} : ∀ {ds : List (DataW H)} {j : Nat} {d : DataW H}, ds[j]? = some d → ∀ n ∈ d.weights P e, n ∈ DataW.weightsAll P e ds
  | d0 :: ds, 0, d, hd, n, hn => by
    simp only [List.getElem?_cons_zero, Option.some.injEq] at hd
    subst hd
    simp only [DataW.weightsAll, List.mem_append]
    exact Or.inl hn
  | d0 :: ds, j + 1, d, hd, n, hn => by
    simp only [List.getElem?_cons_succ] at hd
    simp only [DataW.weightsAll, List.mem_append]
    exact Or.inr (wsum hd n hn)
  | [], _, _, hd, _, _ => by simp at hd
section
variable {H : Type} {enc : TypeId × Value → H} {w : World} {base : Nat} {held : Bool}

theorem bytes_weigh {fuel : Nat} {a : Option Addr} {n cap : Nat} {x : DataW H × List MemPlace} (h : DataW.trod enc Try.prog w base (fun _ => true) held fuel 31 [.slice a n cap] = some x) (hw : ∀ m ∈ x.1.weights Try.prog 31, m ≤ reachBytes) : n ≤ 140737488355328 := by
  rcases open_slice Try.underlying31 h with ⟨h1, _⟩ | ⟨a', len, cap', m, n', D, Pl, h1, _, _, _, _, rfl, _⟩
  · simp at h1
    omega
  · simp at h1
    obtain ⟨rfl, rfl, rfl⟩ := h1
    have := hw ((n + (m - n)) * 1) (by simp [DataW.weights, Try.underlying31, bytes5g])
    unfold reachBytes at this
    omega
theorem open_img_w {fuel : Nat} {cs : List Value} {x : DataW H × List MemPlace} (h : DataW.trod enc Try.prog w base (fun _ => true) held fuel 38 cs = some x) (hw : ∀ m ∈ x.1.weights Try.prog 38, m ≤ reachBytes) :
    ∃ (b : Int) (a : Option Addr) (cap : Nat) (xs : List UInt8), cs = [.int .i64 b, .slice a xs.length cap] ∧ Rd w a xs ∧ xs.length ≤ cap ∧ cap ≤ 9223372036854775807 ∧ (a = none → cap = 0) ∧ xs.length ≤ 140737488355328 := by
  obtain ⟨xs, n, _, rfl, hl, hlen, hf⟩ := DataW.trod_struct Try.underlying38 h
  rw [cells38] at hl
  obtain ⟨v0, v1, rfl⟩ := list2 hl
  obtain ⟨y0, y1, rfl⟩ := list2 (show xs.length = 2 from hlen)
  have g0 := hf 0 _ rfl
  have g1 := hf 1 _ rfl
  simp [cells3, cells31] at g0 g1
  obtain ⟨n0, h0, _⟩ := DataW.trod_int Try.underlying3 g0
  obtain ⟨a, m, cap, ys, h1, hy, hr, q1, q2, q3⟩ := open_bytes g1
  simp at h0 h1
  subst h0 h1 hy
  refine ⟨n0, a, cap, ys, rfl, hr, q1, q2, q3, bytes_weigh g1 (fun m hm => hw m ?_)⟩
  simp only [DataW.weights, Try.underlying38]
  exact DataW.weights_mem_each (j := 1) rfl rfl m hm

theorem open_imgs_w {fuel : Nat} {cs : List Value} {x : DataW H × List MemPlace} (h : DataW.trod enc Try.prog w base (fun _ => true) held fuel 26 cs = some x) (hw : ∀ m ∈ x.1.weights Try.prog 26, m ≤ reachBytes) :
    ∃ (a : Option Addr) (n cap : Nat) (is : List (Int × List UInt8)), cs = [.slice a n cap] ∧ is.length = n ∧ Imgs w a is ∧ n * 32 ≤ 140737488355328 ∧ ∀ i ∈ is, i.2.length ≤ 140737488355328 := by
  rcases open_slice Try.underlying26 h with ⟨rfl, _⟩ | ⟨a, len, cap, m, n, D, Pl, rfl, hb, hl, hm, hmm, rfl, hx⟩
  · exact ⟨none, 0, 0, [], rfl, rfl, fun h => by simp at h, by omega, fun i hi => by cases hi⟩
  have hlm : len ≤ m := by rw [hmm]; split <;> omega
  have h32 : len * 32 ≤ 140737488355328 := by
    have := hw ((len + (m - len)) * 32) (by simp [DataW.weights, Try.underlying26, bytes38g])
    unfold reachBytes at this
    omega
  have each : ∀ i, i < len → ∃ z : Int × List UInt8, w.cell? (a.add (i * 2)) = some (.int .i64 z.1) ∧ z.2.length ≤ 140737488355328 ∧ ∃ x c, w.cell? (a.add (i * 2 + 1)) = some (.slice x z.2.length c) ∧ z.2.length ≤ c ∧ c ≤ 9223372036854775807 ∧ (x = none → c = 0) ∧ Rd w x z.2 := by
    intro i hi
    obtain ⟨cs', h1, h2⟩ := hx i (by omega)
    rw [cells38] at h1
    obtain ⟨bb, ad, cp, ys, rfl, hr, q1, q2, q3, q4⟩ := open_img_w h2 (fun k hk => hw k (by
      simp only [DataW.weights, Try.underlying26]
      refine List.mem_cons_of_mem _ (List.mem_append.2 (Or.inl (wsum (j := i) (d := D i) (by simp [hi]) k hk)))))
    obtain ⟨_, hlen, hcell⟩ := World.cells?_some h1
    have e0 := hcell 0 (by omega)
    have e1 := hcell 1 (by omega)
    rw [add_add] at e0 e1
    exact ⟨(bb, ys), by simpa using e0, q4, ad, cp, by simpa using e1, q1, q2, q3, hr⟩
  obtain ⟨f, hf⟩ := choose_below (0, []) each
  refine ⟨some a, len, cap, (List.range len).map f, rfl, by simp, fun hp => ?_, h32, fun z hz => ?_⟩
  · have hl0 : 0 < len := by simpa using hp
    have h0 := (hf 0 hl0).1
    obtain ⟨b, o, sp⟩ := a
    have hsp : sp = none := by simpa [Addr.add] using World.cell?_spot h0
    subst hsp
    refine ⟨b, o, rfl, fun j hj => ?_⟩
    have hj' : j < len := by simpa using hj
    obtain ⟨g0, _, x, c, g1, g2⟩ := hf j hj'
    rw [Addr.add_lit] at g0 g1
    simp only [List.getElem_map, List.getElem_range]
    exact ⟨g0, x, c, by rw [Nat.add_assoc]; exact g1, g2⟩
  · obtain ⟨i, hi, rfl⟩ := List.mem_map.1 hz
    exact (hf i (by simpa using hi)).2.1

theorem open_group_w {fuel : Nat} {cs : List Value} {x : DataW H × List MemPlace} (h : DataW.trod enc Try.prog w base (fun _ => true) held fuel 28 cs = some x) (hw : ∀ m ∈ x.1.weights Try.prog 28, m ≤ reachBytes) :
    ∃ (e s : Int) (a : Option Addr) (n cap : Nat) (is : List (Int × List UInt8)), cs = [.int .i64 e, .int .i64 s, .slice a n cap] ∧ is.length = n ∧ Imgs w a is ∧ n * 32 ≤ 140737488355328 ∧ ∀ i ∈ is, i.2.length ≤ 140737488355328 := by
  obtain ⟨xs, n, _, rfl, hl, hlen, hf⟩ := DataW.trod_struct Try.underlying28 h
  rw [cells28] at hl
  obtain ⟨v0, v1, v2, rfl⟩ := list3 hl
  obtain ⟨y0, y1, y2, rfl⟩ := list3 (show xs.length = 3 from hlen)
  have g0 := hf 0 _ rfl
  have g1 := hf 1 _ rfl
  have g2 := hf 2 _ rfl
  simp [cells3, cells26] at g0 g1 g2
  obtain ⟨n0, h0, _⟩ := DataW.trod_int Try.underlying3 g0
  obtain ⟨n1, h1, _⟩ := DataW.trod_int Try.underlying3 g1
  obtain ⟨a, m, cap, is, h2, q⟩ := open_imgs_w g2 (fun m hm => hw m (by
    simp only [DataW.weights, Try.underlying28]
    exact DataW.weights_mem_each (j := 2) rfl rfl m hm))
  simp at h0 h1 h2
  subst h0 h1 h2
  exact ⟨n0, n1, a, m, cap, is, rfl, q⟩
end
end Go.Proofs.Ytghcmlkgpedkkaa
