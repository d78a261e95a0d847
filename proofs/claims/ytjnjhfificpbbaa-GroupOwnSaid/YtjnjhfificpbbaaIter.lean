/- The iterator that perm.cycles hands back yields the cycles of the permutation, one after the other. -/
import Derived.Test.YtjnjhfificpbbaaProg
import Derived.Test.YtjnjhfificpbbaaBase
import Derived.Test.YtjnjhfificpbbaaLists
import Derived.Test.YtjnjhfificpbbaaCycL
import Derived.Test.YtjnjhfificpbbaaMul
import Derived.Test.YtjnjhfificpbbaaFrom
import Derived.Test.YtjnjhfificpbbaaRange
import Derived.Shelf.Abstract
import Derived.OwnWalkIn
import Derived.TacticsInMore
import Derived.LoopNIn
import Derived.LoopIn
namespace Go.Proofs.Ytjnjhfificpbbaa
open Go.RowKit Go.Shelf
attribute [local go_sem] Oper.semAt_some

/-- v reads as zs wherever what lay below n lies as it lies in w -/
def SlUp (n : Nat) (w : World) (v : Value) (zs : List Int) : Prop := ∀ w' : World, (∀ b, b < n → w'.heap[b]? = w.heap[b]?) → Sl w' v zs
theorem SlUp.of_sl {w : World} {v : Value} {zs : List Int} (h : Sl w v zs) : SlUp w.heap.size w v zs := fun w' hb => by
  obtain ⟨a, cap, rfl, h⟩ := h
  refine ⟨a, cap, rfl, ?_⟩
  rcases h with h | ⟨b, off, rfl, h⟩
  · exact .inl h
  · refine .inr ⟨b, off, rfl, fun i hi => ?_⟩
    have := h i hi
    exact (World.cell?_of_block (w := w) (hb b (World.block_lt_of_cell? w _ this))).trans this

/-- what a round must keep: all below n, the box of p, and the marks' block -/
def cyKeep (n bp bm : Nat) (A B : World) : Prop := A.heap.size ≤ B.heap.size ∧ ∀ b, b < n ∨ b = bp ∨ b = bm → B.heap[b]? = A.heap[b]?
/-- what is handed to the k-th round -/
def cyItem (p : List Int) (bm : Nat) (k : Nat) (vs : Array Value) (A : World) : Prop := ∃ v, vs = #[v] ∧ Ow (bm + 1) A v ((cyc p).getD k []) ∧ bm < A.heap.size

theorem SlUp.of_below {n : Nat} {w W : World} {v : Value} {zs : List Int} (h : Sl w v zs) (hn : n = w.heap.size) (hb : Below n w W) : SlUp n W v zs := fun w' hw => by
  subst hn
  exact SlUp.of_sl h w' (fun b hlt => (hw b hlt).trans (hb.block b hlt))

theorem cyKeep.trans {n bp bm : Nat} {A B C : World} (h : cyKeep n bp bm A B) (k : cyKeep n bp bm B C) : cyKeep n bp bm A C :=
  ⟨Nat.le_trans h.1 k.1, fun b hb => (k.2 b hb).trans (h.2 b hb)⟩
theorem cyKeep.putObj {n bp bm l : Nat} (W : World) (o : Obj) (h1 : n ≤ l) (h2 : bp ≠ l) (h3 : bm ≠ l) : cyKeep n bp bm W (W.putObj l o) :=
  ⟨by simp [World.putObj], fun b hb => World.putObj_heap_other (by omega)⟩
theorem cyKeep.refl {n bp bm : Nat} (A : World) : cyKeep n bp bm A A := ⟨Nat.le_refl _, fun _ _ => rfl⟩
theorem cyKeep.setCell {n bp bm : Nat} {A B : World} (h : cyKeep n bp bm A B) (g i : Nat) (v : Value) (h1 : n ≤ g) (h2 : bp ≠ g) (h3 : bm ≠ g) : cyKeep n bp bm A (B.setCell ⟨g, i, none⟩ v) :=
  h.trans ⟨by simp, fun b hb => Below.heap_setCell B ⟨g, i, none⟩ v b (by show b ≠ g; omega)⟩
theorem cyItem.putObj {p : List Int} {bm l k : Nat} {vs : Array Value} {A : World} (o : Obj) (h : cyItem p bm k vs A) (hl : l < bm) : cyItem p bm k vs (A.putObj l o) := by
  obtain ⟨v, rfl, hO, hs⟩ := h
  refine ⟨v, rfl, hO.turns (Turns.putObj (priv := fun b => b = l) A l o rfl) ?_, by simp [World.putObj]; exact hs⟩
  intro r e er
  have := (hO.lt r e).1
  omega

end Go.Proofs.Ytjnjhfificpbbaa
