/-
  For laws that go step by step: a sched that is just made, and Picks and Adds with plain numbers.
-/
import Derived.Test.YtjhhncbadkpbaaaSit
import Derived.Test.YtjhhncbadkpbaaaSame
namespace Go.Proofs.Ytjhhncbadkpbaaa
open Go.RowKit

theorem Sit.pickN {w : World} {B s : Nat} {S : SS} {tb bb : Nat} {tv : Value} {told : List Bool} {bad : Bool} {K : List TK} (h : Sit w B s S tb bb tv told bad K) (P Z Y : Int) (p i : Nat) (k : TK) (e : En) (S' : SS) (told' : List Bool) (hp : p < 18446744073709551616) (h0 : 0 < S.L.length) (hG : S.G.length < 1000) (htl : told.length < 100000) (hi : S.L[p % S.L.length]? = some i) (hk : K[i]? = some k) (he : S.E[i]? = some e) (hn : e.n < 100000)
    (hP : P = (p : Int)) (hZ : Z = ((i + 1 : Nat) : Int)) (hY : Y = (S.pickSt p i (doAt k.xs e.n) : Int)) (hS : S.pickTo p i e (doAt k.xs e.n) = S') (hT : toldBy (S.beg p i) told (doAt k.xs e.n) = told') :
    Calls Try.prog 10 #[ptr s, .int .u64 P] w fun r w' => r = .returned (.tuple #[.int .i64 Z, .int .u8 Y, .bool true]) ∧ ∃ tv', Sit w' B s S' tb bb tv' told' bad K ∧ Below B w w' := by
  subst hP hZ hY hS hT
  refine (h.pick p hp h0 hG htl i k e hi hk he hn).mono ?_
  rintro r w' ⟨rfl, tv', h1, h2, _, _⟩
  exact ⟨rfl, tv', h1, h2⟩
theorem ownsRow_base {w : World} {B B' n : Nat} {e : TypeId} {size : Nat} {v : Value} {xs : List Value} (h : w.ownsRow B e size v n xs) (hB : B' ≤ B) : w.ownsRow B' e size v n xs := by
  refine ⟨h.1, ?_⟩
  rcases h.2 with h | ⟨g, cap, cur, rfl, hb, r⟩
  · exact .inl h
  · exact .inr ⟨g, cap, cur, rfl, Nat.le_trans hB hb, r⟩
theorem IsS.base {w : World} {B B' s : Nat} {S : SS} (h : IsS w B s S) (hB : B' ≤ B) : IsS w B' s S := by
  obtain ⟨vt, va, vl, h⟩ := h
  refine ⟨vt, va, vl, ⟨⟨Nat.le_trans hB h.rows.hs, h.rows.box, ownsRow_base h.rows.rt hB, ownsRow_base h.rows.ra hB, ownsRow_base h.rows.rl hB, h.rows.ta, h.rows.tl, h.rows.al⟩, ⟨h.ents.len, h.ents.nd, fun g hg => Nat.le_trans hB (h.ents.hG g hg), h.ents.en⟩, h.ll, h.hn⟩⟩
theorem TW.fresh (w : World) (B : Nat) (hB : B ≤ w.heap.size) : TW ((w.alloc (.cells #[.slice none 0 0] 25)).alloc (.cells #[.bool false] 4)) B w.heap.size (w.heap.size + 1) (.slice none 0 0) [] false :=
  have h1 := (Box.new w #[.slice none 0 0] 25).alloc (.cells #[.bool false] 4)
  have h2 := Box.new (w.alloc (.cells #[.slice none 0 0] 25)) #[.bool false] 4
  ⟨h1, World.ownsRow_nil _ _ _ _, by simp [Value.ownBlock], by simpa using h2, hB, by omega⟩
theorem Sit.start {w : World} {B s : Nat} {tb bb : Nat} {tv : Value} {bad : Bool} (h : IsS w B s SS0) (hT : TW w B tb bb tv [] bad) : Sit w B s SS0 tb bb tv [] bad [] :=
  ⟨h, Good.zero, rfl, hT, rfl, fun i k e h1 _ => by simp at h1, fun i j k l h1 _ _ => by simp at h1⟩
/-- New, with the law's list and mark ahead of it -/
theorem new_sit (w : World) (B : Nat) (hB : B ≤ w.heap.size) : Calls Try.prog 8 #[] ((w.alloc (.cells #[.slice none 0 0] 25)).alloc (.cells #[.bool false] 4)) fun r w' => r = .returned (ptr (w.heap.size + 2)) ∧ Sit w' B (w.heap.size + 2) SS0 w.heap.size (w.heap.size + 1) (.slice none 0 0) [] false [] ∧ Below w.heap.size w w' := by
  refine (new_at _).mono ?_
  rintro r w' ⟨rfl, h1, h2⟩
  have e : ((w.alloc (.cells #[.slice none 0 0] 25)).alloc (.cells #[.bool false] 4)).heap.size = w.heap.size + 2 := by simp
  rw [e] at h1 h2 ⊢
  refine ⟨rfl, Sit.start (h1.base (by omega)) ((TW.fresh w B hB).kt (p := fun _ => True) (Kt.below (by rw [e]; exact h2)) trivial trivial), ?_⟩
  exact (((Below.refl w.heap.size w).alloc (Nat.le_refl _) _).alloc (by simp) _).trans (h2.mono (by omega))
/-- a new task whose list is a literal of one step -/
def litW (w : World) (s tb bb : Nat) (d : Do3) : World := (w.alloc (.cells (doC d) 45)).alloc (.cells (tkC s (some ⟨w.heap.size, 0, none⟩) 1 1 0 tb bb) 51)
theorem doRow_one (w : World) (B g : Nat) (d : Do3) (h : Box w g (doC d) 45) : DoRow w B (some ⟨g, 0, none⟩) [d] := fun _ => ⟨g, 0, rfl, fun j hj => by
  have e : j = 0 := by simpa using hj
  subst e
  exact ⟨h.cell 0, h.cell 1, h.cell 2⟩, .inr ⟨_, h⟩⟩
theorem tk_lt {w : World} {B s : Nat} {S : SS} {tb bb : Nat} {tv : Value} {told : List Bool} {bad : Bool} {K : List TK} (h : Sit w B s S tb bb tv told bad K) : ∀ l ∈ K, l.tg < w.heap.size := fun l hl => by
  obtain ⟨i, hi, rfl⟩ := List.getElem_of_mem hl
  have hE : i < S.E.length := by rw [h.is.len, ← h.hlen]; exact hi
  exact (h.tk i _ _ (List.getElem?_eq_getElem hi) (List.getElem?_eq_getElem hE)).2.1.lt
theorem Sit.addLit {w : World} {B s : Nat} {S : SS} {tb bb : Nat} {tv : Value} {told : List Bool} {bad : Bool} {K : List TK} (h : Sit w B s S tb bb tv told bad K) (hf : (alv S.E S.G).length < 64) (hg : S.G.length < 1000) (d : Do3) (Z : Int) (hZ : Z = ((S.G.length + 1 : Nat) : Int)) :
    Calls Try.prog 9 #[ptr s, .iface 47 (ptr (w.heap.size + 1))] (litW w s tb bb d) fun r w' => ∃ g, r = .returned (.tuple #[.int .i64 Z, .int .i64 0]) ∧ Sit w' B s (S.add g (.iface 47 (ptr (w.heap.size + 1)))) tb bb tv told bad (K ++ [⟨w.heap.size + 1, some ⟨w.heap.size, 0, none⟩, 1, [d]⟩]) ∧ Below B w w' := by
  subst hZ
  have hb : Below w.heap.size w (litW w s tb bb d) := ((Below.refl w.heap.size w).alloc (Nat.le_refl _) _).alloc (by simp) _
  have x1 := (Box.new w (doC d) 45).alloc (.cells (tkC s (some ⟨w.heap.size, 0, none⟩) 1 1 0 tb bb) 51)
  have x2 := Box.new (w.alloc (.cells (doC d) 45)) (tkC s (some ⟨w.heap.size, 0, none⟩) 1 1 0 tb bb) 51
  have e : (w.alloc (.cells (doC d) 45)).heap.size = w.heap.size + 1 := by simp
  rw [e] at x2
  refine ((h.below hb).add hf hg ⟨w.heap.size + 1, some ⟨w.heap.size, 0, none⟩, 1, [d]⟩ x2 (doRow_one _ _ _ d x1) (by have := h.is.hB; show B ≤ w.heap.size + 1; omega) (fun l hl => by have := tk_lt h l hl; show l.tg ≠ w.heap.size + 1; omega)).mono ?_
  rintro r w' ⟨g, rfl, h1, h2, _⟩
  exact ⟨g, rfl, h1, (hb.mono h.is.hB).trans h2⟩
end Go.Proofs.Ytjhhncbadkpbaaa
