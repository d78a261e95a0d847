/- A region that draws its order: a head in which loads are taken first while their cells stand, and a tail in one forced order that may overwrite them. -/
import Derived.OrdersHeld
import Derived.StillTail
import Derived.Tactics
import Derived.WalkKit
import Derived.Test.YtdcilefiacohnaaQTail
namespace Go.Proofs.Ytdcilefiacohnaa
open Go Go.RowKit

/-- Whatever is picked, the first f picks are of the head; then the rest comes up in one order. -/
def headS (ops hs : Array Oper) (n g : Nat) : Nat → Array Bool → Bool
  | 0, listed => Region.seqB .any ops g n listed
  | f + 1, listed => !decide (Region.ready .any ops listed = []) && (decide (Region.ready .any ops listed = Region.ready .any hs listed) && (Region.ready .any ops listed).all fun i => headS ops hs n g f (listed.setIfInBounds i true))

section
variable {P : Program} {ops hs : Array Oper} {n : Nat} {S : World → Prop} {T : Act → World → Prop} {Q' : Exit → Act → World → Prop}

/-- no way out but the normal one -/
def Only (T : Act → World → Prop) : Exit → Act → World → Prop := fun e a w => e = .normal ∧ T a w
theorem not_lets (h : LetsOut (Only T)) : False := by obtain ⟨a, w, h, _⟩ := h; cases h

theorem wp_only {o : Oper} {a : Act} {w : World} {K : Act → World → Prop} (hh : o.wp P a w K (Only T)) : o.wp P a w K Q' := by
  unfold Oper.wp at *
  generalize (execOp a.eval o).run P w = r at *
  cases r with
  | ok n w' =>
    cases n <;> simp only [Oper.upon] at hh ⊢
    case value u => exact hh
    case skip => exact hh
    case defer d => exact hh
    case enter f args =>
      refine Calls.mono hh fun e w'' he => ?_
      cases e with
      | returned v => exact he
      | panicked c => cases he.1
      | outgrown => exact (not_lets he).elim
    case row row args => exact hh
  | halt x w' =>
    cases x <;> simp only [Oper.upon] at hh ⊢
    case panic u => cases hh.1

theorem any_of_held (hg : ∀ (i : Nat) (o : Oper), hs[i]? = some o → ops[i]? = some o ∧ o.guard = none) {g : Nat} (hT : ∀ listed a w, Region.seqB .any ops g n listed = true → T a w → wpAny P .any ops Q' g listed a w) :
    ∀ (f : Nat) (listed : Array Bool) (a : Act) (w : World), headS ops hs n g f listed = true → wpAnyH P .any hs (Only T) S f listed a w → wpAny P .any ops Q' (f + g) listed a w
  | 0, listed, a, w, hB, h => by rw [Nat.zero_add]; exact hT _ _ _ hB h.2.2
  | f + 1, listed, a, w, hB, h => by
    simp only [headS, Bool.and_eq_true, Bool.not_eq_true', decide_eq_true_eq, decide_eq_false_iff_not] at hB
    obtain ⟨hne, heq, hall⟩ := hB
    rw [show f + 1 + g = (f + g) + 1 by omega]
    refine ⟨fun h0 => absurd h0 hne, fun i hi => ?_⟩
    have hB' := List.all_eq_true.1 hall i hi
    have hi' : i ∈ Region.ready .any hs listed := by rw [← heq]; exact hi
    obtain ⟨_, o, ho, _⟩ := mem_ready.1 hi'
    obtain ⟨ho', hgd⟩ := hg i o ho
    have h1 := h.2 i hi'
    have e1 : Region.wanted o (yielded hs a.tmps) = true := by simp [Region.wanted, hgd]
    have e2 : Region.wanted o (yielded ops a.tmps) = true := by simp [Region.wanted, hgd]
    unfold wpOp at h1 ⊢
    simp only [ho, e1, if_true] at h1
    simp only [ho', e2, if_true]
    rcases h1 with h1 | ⟨_, h1⟩
    · exact .inl (Oper.wp_mono (fun a' w' hK => any_of_held hg hT f _ a' w' hB' hK.2) (wp_only h1))
    · exact (not_lets h1).elim

/-- What the kernel checks of the region. -/
def thenS (l : List Oper) (n : Nat) : Bool :=
  decide (n ≤ l.length) && (headS l.toArray (l.take n).toArray n (l.length - n) n (Array.replicate l.length false) && (l.take n).all (·.guard.isNone))

theorem wp_region_held_then {id : Nat} {a : Act} {w : World} {l : List Oper} (n : Nat) (hm : P.follows .mixedOrders = true) (hB : thenS l n = true)
    (h : wpAnyH P .any (l.take n).toArray (Only fun a' w' => wpList P l.toArray Q' (l.drop n) a' w') S n (Array.replicate l.length false) a w.drew) : (Code.region id l.toArray true).wp P Q' a w := by
  simp only [thenS, Bool.and_eq_true, decide_eq_true_eq] at hB
  obtain ⟨hn, hh, hgd⟩ := hB
  have hdl : (l.drop n).length = l.length - n := List.length_drop
  refine wp_region_any hm ?_
  have := any_of_held (ops := l.toArray) (Q' := Q') (n := n) (g := l.length - n) (fun i o ho => ?_) (fun listed a' w' hs ht => ?_) n _ a w.drew hh h
  · rw [show l.toArray.size = n + (l.length - n) by simp; omega]
    rw [show n + (l.length - n) = l.length by omega] at this ⊢
    exact this
  · have hi : i < n := by
      have := (Array.getElem?_eq_some_iff.1 ho).1
      simp at this; omega
    have e : l[i]? = some o := by
      have : (l.take n)[i]? = some o := by simpa using ho
      rwa [List.getElem?_take_of_lt hi] at this
    refine ⟨by simpa using e, ?_⟩
    have hm : o ∈ l.take n := List.mem_of_getElem? (by simpa using ho)
    have := List.all_eq_true.1 hgd o hm
    simpa using this
  · have := wpAny_of_seq (md := .any) (Q' := Q') (l.drop n) n listed a' w' (fun j => by simp [List.getElem?_drop]) (by rw [hdl]; exact hs) ht
    rwa [hdl] at this

/-- take number i first: what it yields while S holds -/
theorem held_take {i : Nat} {oi : Oper} {v : Value} {fuel : Nat} {listed : Array Bool} {a : Act} {w : World} (hi : ops[i]? = some oi) (hg : oi.guard = none)
    (hs : Region.noSelect ops = true) (hf : Region.free .any ops listed i = true) (hr : (Region.ready .any ops listed).contains i = true)
    (hy : ∀ w, S w → (execOp a.eval oi).run P w = .ok (.value v) w) (hS : S w)
    (h : wpAnyH P .any ops (Only T) S fuel (listed.setIfInBounds i true) (a.put oi.dst v) w) : wpAnyH P .any ops (Only T) S (fuel + 1) listed a w :=
  wpAnyH_take hi hs hf hr (fun _ _ _ h => by cases h.1) (.inl ⟨by simp [Region.wanted, hg], hy⟩) hS h

/-- the one that may come up, whatever it does -/
theorem held_only {i : Nat} {oi : Oper} {fuel : Nat} {listed : Array Bool} {a : Act} {w : World} (hi : ops[i]? = some oi) (hg : oi.guard = none) (hr : Region.ready .any ops listed = [i])
    (h : oi.wp P a w (fun a' w' => S w' ∧ wpAnyH P .any ops (Only T) S fuel (listed.setIfInBounds i true) a' w') (Only T)) : wpAnyH P .any ops (Only T) S (fuel + 1) listed a w := by
  refine wpAnyH_all hr (by simp) (fun j hj => ?_)
  have e : j = i := by simpa using hj
  subst e
  have e1 : Region.wanted oi (yielded ops a.tmps) = true := by simp [Region.wanted, hg]
  unfold wpOp
  simp only [hi, e1, if_true]
  exact .inl h
theorem held_done {listed : Array Bool} {a : Act} {w : World} (hr : Region.ready .any ops listed = []) (h : T a w) : wpAnyH P .any ops (Only T) S 0 listed a w := ⟨hr, rfl, h⟩
end
end Go.Proofs.Ytdcilefiacohnaa
