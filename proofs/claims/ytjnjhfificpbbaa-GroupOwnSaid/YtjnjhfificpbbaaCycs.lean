/- perm.Parity and perm.Cycles, by their meaning; words for slices of slices of integers. -/
import Derived.Test.YtjnjhfificpbbaaProg
import Derived.Test.YtjnjhfificpbbaaBase
import Derived.Test.YtjnjhfificpbbaaLists
import Derived.Test.YtjnjhfificpbbaaCycL
import Derived.Test.YtjnjhfificpbbaaValid
import Derived.Test.YtjnjhfificpbbaaNums
import Derived.Test.YtjnjhfificpbbaaRange
import Derived.Test.YtjnjhfificpbbaaIter
import Derived.Shelf.Abstract
import Derived.OwnWalkIn
import Derived.TacticsInMore
import Derived.LoopNIn
import Derived.LoopIn
import Derived.Maps.AppendAt
namespace Go.Proofs.Ytjnjhfificpbbaa
open Go.RowKit Go.Shelf
attribute [local go_sem] Oper.semAt_some

theorem infoInts : (Try.prog.info? 31).map (fun i => (i.zero, i.size, i.bytes)) = some (some (.slice none 0 0), 1, 24) := by kernel_rfl

/-- v is a slice of slices of the call's own, from block B on, that holds the lists css. -/
def Ows (B : Nat) (w : World) (v : Value) (css : List (List Int)) : Prop :=
  ∃ vs : List Value, vs.length = css.length ∧ w.ownsRow B 31 1 v vs.length vs ∧ ∀ i, i < css.length → Ow B w (vs.getD i undef) (css.getD i [])

theorem Ows.nil (B : Nat) (w : World) : Ows B w (.slice none 0 0) [] := ⟨[], rfl, World.ownsRow_nil _ _ _ _, fun i hi => by simp at hi⟩

theorem ownsRow_turns {priv : Nat → Prop} {A C : World} {B : Nat} {t : TypeId} {v : Value} {n : Nat} {xs : List Value} (h : A.ownsRow B t 1 v n xs) (ht : Turns priv A C) (hn : ∀ r, v.ownBlock = some r → ¬ priv r) : C.ownsRow B t 1 v n xs := by
  obtain ⟨h1, h⟩ := h
  refine ⟨h1, ?_⟩
  rcases h with h | ⟨g, cap, cur, rfl, h2, h3, h4⟩
  · exact .inl h
  · exact .inr ⟨g, cap, cur, rfl, h2, (ht.block g (Array.getElem?_eq_some_iff.1 h3).1 (hn g rfl)).trans h3, h4⟩

theorem Ows.turns {priv : Nat → Prop} {A C : World} {B : Nat} {v : Value} {css : List (List Int)} (h : Ows B A v css) (ht : Turns priv A C) (hp : ∀ b, priv b → b < B) : Ows B C v css := by
  obtain ⟨vs, h1, h2, h3⟩ := h
  exact ⟨vs, h1, ownsRow_turns h2 ht (fun r e hr => by have := (h2.lt r e).1; have := hp r hr; omega), fun i hi => (h3 i hi).turns ht (fun r e hr => by have := ((h3 i hi).lt r e).1; have := hp r hr; omega)⟩
theorem Ows.below {B : Nat} {A C : World} {v : Value} {css : List (List Int)} (h : Ows B A v css) (hb : Below A.heap.size A C) : Ows B C v css := by
  obtain ⟨vs, h1, h2, h3⟩ := h
  exact ⟨vs, h1, ownsRow_turns (priv := fun _ => False) h2 (Turns.of_below hb) (fun _ _ h => h), fun i hi => (h3 i hi).below hb⟩
theorem Ows.mono {B B' : Nat} {w : World} {v : Value} {css : List (List Int)} (h : Ows B w v css) (hB : B' ≤ B) : Ows B' w v css := by
  obtain ⟨vs, h1, ⟨h2, h2'⟩, h3⟩ := h
  refine ⟨vs, h1, ⟨h2, ?_⟩, fun i hi => (h3 i hi).mono hB⟩
  rcases h2' with h | ⟨g, cap, cur, e, h4, h5⟩
  · exact .inl h
  · exact .inr ⟨g, cap, cur, e, by omega, h5⟩

/-- a row of slices and a row of integers are two blocks -/
theorem apart {A : World} {B B' : Nat} {v x : Value} {n : Nat} {xs : List Value} {zs : List Int} (h : A.ownsRow B 31 1 v n xs) (k : Ow B' A x zs) : ∀ b, x.ownBlock = some b → v.ownBlock ≠ some b := by
  intro b hb hv
  obtain ⟨_, h⟩ := h
  obtain ⟨_, k⟩ := k
  rcases h with ⟨rfl, _⟩ | ⟨g, cap, cur, rfl, _, h3, _⟩
  · cases hv
  · rcases k with ⟨rfl, _⟩ | ⟨g', cap', cur', rfl, _, k3, _⟩
    · cases hb
    · cases hb
      cases hv
      rw [h3] at k3
      cases k3

theorem Ow.row {A C : World} {B : Nat} {row : Option Nat} {x : Value} {zs : List Int} (k : Ow B A x zs) (hg : A.grownBy C row) (hne : ∀ b, x.ownBlock = some b → row ≠ some b) : Ow B C x zs := by
  obtain ⟨h1, h⟩ := k
  refine ⟨h1, ?_⟩
  rcases h with h | ⟨g, cap, cur, rfl, h2, h3, h4⟩
  · exact .inl h
  · exact .inr ⟨g, cap, cur, rfl, h2, (hg.block g (Array.getElem?_eq_some_iff.1 h3).1 (fun e => hne g rfl e.symm)).trans h3, h4⟩

theorem Ows.push {A C : World} {B : Nat} {v v' x : Value} {vs : List Value} {css : List (List Int)} {c : List Int} {tmp : Obj}
    (h1 : vs.length = css.length) (h2 : A.ownsRow B 31 1 v vs.length vs) (h3 : ∀ i, i < css.length → Ow B A (vs.getD i undef) (css.getD i [])) (hx : Ow B A x c)
    (hown : C.ownsRow B 31 1 v' (vs.length + 1) (vs ++ [x])) (hg : (A.alloc tmp).grownBy C v.ownBlock) : Ows B C v' (css ++ [c]) := by
  have hal : Below A.heap.size A (A.alloc tmp) := (Below.refl _ A).alloc (Nat.le_refl _) _
  have keep : ∀ y zs, Ow B A y zs → Ow B C y zs := fun y zs k => (k.below hal).row hg (apart h2 k)
  refine ⟨vs ++ [x], by simp [h1], by simpa using hown, fun i hi => ?_⟩
  simp only [List.length_append, List.length_singleton] at hi
  by_cases e : i < css.length
  · have := keep _ _ (h3 i e)
    simpa [List.getElem?_append, e, show i < vs.length by omega] using this
  · obtain rfl : i = css.length := by omega
    have := keep _ _ hx
    simpa [← h1] using this

def exTo (p : List Int) (k : Nat) : Nat := (((cyc p).take k).map fun c => c.length - 1).sum
def parL (p : List Int) : Nat := exTo p (cyc p).length % 2
theorem exTo_succ (p : List Int) (k : Nat) (hk : k < (cyc p).length) : exTo p (k + 1) = exTo p k + (((cyc p).getD k []).length - 1) := by
  unfold exTo
  rw [List.take_succ_eq_append_getElem hk, List.map_append, List.sum_append]
  simp [hk]
theorem exTo_le {p : List Int} (h : validL p = true) (k : Nat) : k ≤ (cyc p).length → exTo p k ≤ k * 7 := by
  induction k with
  | zero => intro _; simp [exTo]
  | succ k ih =>
    intro hk
    have := ih (by omega)
    have := cyc_len h (k := k) (by omega)
    rw [exTo_succ p k (by omega)]
    omega
theorem cyTo_count (p : List Int) (k : Nat) : (cyTo p k).1.length ≤ k := by
  induction k with
  | zero => simp [cyTo]
  | succ k ih =>
    by_cases hm : (k : Int) ∈ (cyTo p k).2
    · rw [cyTo_old hm]; omega
    · rw [cyTo_new hm]; simp; omega
theorem cyc_count {p : List Int} (h : validL p = true) : (cyc p).length ≤ 7 := by
  have := cyTo_count p p.length
  have := ((validL_iff p).1 h).2.1
  unfold cyc
  omega

end Go.Proofs.Ytjnjhfificpbbaa
