/- A region that draws its order: operations that are quiet in a class of worlds, and one operation that waits for all of them and may write. -/
import Derived.Deep.Quiet
import Derived.Lib.QuietBelow
import Derived.Laws.Rows
import Derived.Tactics
import Derived.Below
import Derived.WalkKit
namespace Go.Proofs.Ytdcilefiacohnaa
open Go Go.RowKit

/-- Whatever is picked, the first f picks are of the head, and then number n alone may come up, and nothing after it. -/
def headB (ops hs : Array Oper) (n : Nat) : Nat → Array Bool → Bool
  | 0, listed => decide (Region.ready .any ops listed = [n]) && decide (Region.ready .any ops (listed.setIfInBounds n true) = [])
  | f + 1, listed => !decide (Region.ready .any ops listed = []) && (decide (Region.ready .any ops listed = Region.ready .any hs listed) && (Region.ready .any ops listed).all fun i => headB ops hs n f (listed.setIfInBounds i true))

section
variable {P : Program} {ops hs : Array Oper} {n : Nat} {C : World → Prop} {Q : Act → Prop} {Q' : Exit → Act → World → Prop}

theorem qOp_head {i : Nat} {o : Oper} {K : Act → Prop} {a : Act} (h1 : hs[i]? = some o) (h2 : ops[i]? = some o) (hg : o.guard = none) (h : qOp P hs C i K a) : qOp P ops C i K a := by
  have e1 : Region.wanted o (yielded hs a.tmps) = true := by simp [Region.wanted, hg]
  have e2 : Region.wanted o (yielded ops a.tmps) = true := by simp [Region.wanted, hg]
  unfold qOp at h ⊢
  simp only [h1, e1, if_true] at h
  simp only [h2, e2, if_true]
  exact h

theorem any_of_head (hg : ∀ (i : Nat) (o : Oper), hs[i]? = some o → ops[i]? = some o ∧ o.guard = none) (hQ : ∀ a w, C w → Q a → wpOp P ops Q' n (fun a' w' => Q' .normal a' w') a w) :
    ∀ (f : Nat) (listed : Array Bool) (a : Act) (w : World), C w → headB ops hs n f listed = true → wpAnyQ P .any hs C Q f listed a → wpAny P .any ops Q' (f + 1) listed a w
  | 0, listed, a, w, hw, hB, h => by
    simp only [headB, Bool.and_eq_true, decide_eq_true_eq] at hB
    refine ⟨fun h0 => (by rw [hB.1] at h0; cases h0), fun i hi => ?_⟩
    rw [hB.1] at hi
    have e : i = n := by simpa using hi
    subst e
    exact wpOp_mono (fun a' w' h' => ⟨hB.2, h'⟩) (hQ a w hw h.2)
  | f + 1, listed, a, w, hw, hB, h => by
    simp only [headB, Bool.and_eq_true, Bool.not_eq_true', decide_eq_true_eq, decide_eq_false_iff_not] at hB
    obtain ⟨hne, heq, hall⟩ := hB
    refine ⟨fun h0 => absurd h0 hne, fun i hi => ?_⟩
    have hB' := List.all_eq_true.1 hall i hi
    have hi' : i ∈ Region.ready .any hs listed := by rw [← heq]; exact hi
    obtain ⟨_, o, ho, _⟩ := mem_ready.1 hi'
    exact wpOp_of_qOp hw (fun a' w' hw' hK => any_of_head hg hQ f _ a' w' hw' hB' hK) (qOp_head ho (hg i o ho).1 (hg i o ho).2 (h.2 i hi'))

/-- What the kernel checks of the region. -/
def thenB (l : List Oper) (n : Nat) : Bool :=
  decide (l.length = n + 1) && (Region.noSelect (l.take n).toArray && (Region.lexFrom .any (l.take n).toArray n 0 (Array.replicate l.length false) && (headB l.toArray (l.take n).toArray n n (Array.replicate l.length false) && (l.take n).all (·.guard.isNone))))

theorem wp_region_quiet_then {id : Nat} {a : Act} {w : World} {l : List Oper} (n : Nat) (hm : P.follows .mixedOrders = true) (hB : thenB l n = true) (hC : C w.drew)
    (h : wpQuiet P (l.take n).toArray C (fun a' => ∀ w', C w' → wpList P l.toArray Q' (l.drop n) a' w') (l.take n) a) : (Code.region id l.toArray true).wp P Q' a w := by
  simp only [thenB, Bool.and_eq_true, decide_eq_true_eq] at hB
  obtain ⟨hn, hs, hl, hh, hgd⟩ := hB
  have hlen : (l.take n).length = n := by rw [List.length_take]; omega
  have hdrop : l.drop n = [l[n]] := by
    rw [List.drop_eq_getElem_cons (by omega), List.drop_eq_nil_of_le (by omega)]
  rw [hdrop] at h
  have H := wpAnyQ_lex (C := C) (md := .any) (ops := (l.take n).toArray) hs (l.take n) 0 (Array.replicate l.length false) a (fun j => by simp) (by rw [hlen]; exact hl) h
  rw [hlen] at H
  refine wp_region_any hm ?_
  have := any_of_head (ops := l.toArray) (Q' := Q') (n := n) (fun i o ho => ?_) (fun a' w' hw' hq => ?_) n _ a w.drew hC hh H
  · rw [show l.toArray.size = n + 1 by simpa using hn]
    rw [hn] at this
    exact this
  · have hi : i < n := by
      have := (Array.getElem?_eq_some_iff.1 ho).1
      simp at this; omega
    have e : l[i]? = some o := by
      have : (l.take n)[i]? = some o := by simpa using ho
      rwa [List.getElem?_take_of_lt hi] at this
    refine ⟨by simpa using e, ?_⟩
    have hm : o ∈ l.take n := List.mem_of_getElem? (by simpa using ho)
    have := List.all_eq_true.1 hgd o hm
    simpa using this
  · have h1 := hq w' hw'
    have h0 : l.toArray[n]? = some l[n] := by simp
    have hw : wpOp P l.toArray Q' n (wpList P l.toArray Q' []) a' w' := by unfold wpOp; simp only [h0]; exact h1
    exact wpOp_mono (fun _ _ h' => h') hw

/-- One quiet step: a load of a whole row. -/
theorem wpQuiet_load_row {rest : List Oper} {o : Oper} {a : Act} (hgd : o.guard = none) (ty : TypeId) (x : Operand) (ho : o.op = .load ty x) (g : Nat) (hx : a.eval x = .pointer (some ⟨g, 0, none⟩)) (t : TypeId) (cs : Array Value) (fr : Nat × Nat) (d : TypeDesc)
    (hg : ∀ w, C w → w.heap[g]? = some (.cells cs t fr)) (hu : P.underlying ty = some d) (hd : (match d with | .struct _ | .array _ _ => true | _ => false) = true) (hi : (P.info? ty).map (·.size) = some cs.size)
    (h : wpQuiet P ops C Q rest (a.put o.dst (.agg cs))) : wpQuiet P ops C Q (o :: rest) a := by
  have e1 : Region.wanted o (yielded ops a.tmps) = true := by simp [Region.wanted, hgd]
  unfold wpQuiet
  rw [if_pos e1]
  refine ⟨.agg cs, fun w hw => ?_, h⟩
  unfold Oper.quietAt execOp
  simp only [ho, hx, Instr.loadAt, Instr.sureAddr, Sem.run_bind, Sem.run_pure, Result.andThen_ok, run_loadVar_row w g t ty cs fr d (hg w hw) hu hd hi]
  exact ⟨rfl, rfl⟩

/-- One quiet step: a call of a function by its number. -/
theorem wpQuiet_call {rest : List Oper} {o : Oper} {a : Act} (hgd : o.guard = none) (f : FuncId) {fn : Func} (hf : P.funcs[f]? = some fn) (hnm : decide (fn.name = "runtime.NumGoroutine") = false) (hbd : fn.body.isNone = false) (xs : Array Operand) (ts : Array TypeId) (ho : o.op = .call { callee := .value (.func f), args := xs, argTypes := ts }) (args : Array Value) (hargs : (xs.toList.map a.eval).toArray = args) (v : Value)
    (hc : ∀ w, C w → Calls P f args w fun e w' => e = .returned v ∧ C w') (h : wpQuiet P ops C Q rest (a.put o.dst v)) : wpQuiet P ops C Q (o :: rest) a := by
  have e1 : Region.wanted o (yielded ops a.tmps) = true := by simp [Region.wanted, hgd]
  unfold wpQuiet
  rw [if_pos e1]
  refine ⟨v, fun w hw => ?_, h⟩
  have := hc w hw
  have hxs : xs.map a.eval = args := by rw [← hargs]; exact Array.toList_inj.1 (by rw [Array.toList_map])
  rw [← hxs] at this
  unfold Oper.quietAt
  have e : (execOp a.eval o).run P w = .ok (.enter f (xs.map a.eval)) w := by
    have h1 : ¬ fn.name = "runtime.NumGoroutine" := of_decide_eq_false hnm
    have h2 : ¬ fn.body = none := fun e => by rw [e] at hbd; cases hbd
    simp [execOp, ho, resolve, invoke, Act.eval, Deferred.ofValue, callFunc, hf, h1, h2]
  rw [e]
  exact ⟨rfl, this⟩
end
end Go.Proofs.Ytdcilefiacohnaa
