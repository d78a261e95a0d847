/- Two moves more in a region that draws its order: one of those that may come up, a call by its contract, an allocation. -/
import Derived.Test.YtmenkahkdcjkiaaDoorQHeld
import Derived.Test.YtmenkahkdcjkiaaDoorBase
import Derived.Laws.Rows
import Derived.Laws.Tables
namespace Go.Proofs.YtmenkahkdcjkiaaDoor
open Go Go.RowKit
section
variable {P : Program} {ops : Array Oper} {T : Act → World → Prop}
/-- one of those that may come up -/
theorem held_pick {i : Nat} {oi : Oper} {a : Act} {w : World} {K : Act → World → Prop} (hi : ops[i]? = some oi) (hg : oi.guard = none) (h : oi.wp P a w K (Only T)) : wpOp P ops (Only T) i K a w := by
  have e1 : Region.wanted oi (yielded ops a.tmps) = true := by simp [Region.wanted, hg]
  unfold wpOp
  simp only [hi, e1, if_true]
  exact .inl h
end
/-- a call by its contract -/
theorem wp_call_any {P : Program} {o : Oper} {a : Act} {w : World} {K : Act → World → Prop} {Q : Exit → Act → World → Prop} (f : FuncId) {fn : Func} (hf : P.funcs[f]? = some fn) (hnm : decide (fn.name = "runtime.NumGoroutine") = false) (hbd : fn.body.isNone = false)
    (xs : Array Operand) (ts : Array TypeId) (ho : o.op = .call { callee := .value (.func f), args := xs, argTypes := ts }) (args : Array Value) (hargs : xs.toList.map a.eval = args.toList)
    (hc : Calls P f args w fun e w' => ∃ v, e = .returned v ∧ K (a.put o.dst v) w') : o.wp P a w K Q := by
  have hxs : xs.map a.eval = args := Array.toList_inj.1 (by rw [Array.toList_map, hargs])
  have e : (execOp a.eval o).run P w = .ok (.enter f (xs.map a.eval)) w := by
    have h1 : ¬ fn.name = "runtime.NumGoroutine" := of_decide_eq_false hnm
    have h2 : ¬ fn.body = none := fun e => by rw [e] at hbd; cases hbd
    simp [execOp, ho, resolve, invoke, Act.eval, Deferred.ofValue, callFunc, hf, h1, h2]
  unfold Oper.wp
  rw [e, Oper.upon_enter, hxs]
  refine hc.mono fun e w' ⟨v, he, hK⟩ => ?_
  subst he; exact hK
theorem Blk.setRow {w : World} {b : Nat} {t : TypeId} {cs : Array Value} (h : Blk w b t cs) (ds : Array Value) : Blk (w.setRow b ds) b t ds := setRow_heap w b cs ds t (0, 0) h
theorem below_row {n : Nat} {a w : World} (h : Below n a w) (b : Nat) (cs : Array Value) (hb : n ≤ b) : Below n a (w.setRow b cs) :=
  ⟨h.os, h.tape, h.output, by rw [size_setRow]; exact h.size, fun k hk => (setRow_other w b k cs (by omega)).trans (h.block k hk)⟩
theorem run_row_any {P : Program} {o : Oper} {a : Act} {w : World} (ty : TypeId) (x : Operand) (ho : o.op = .load ty x) (g : Nat) (hx : a.eval x = .pointer (some ⟨g, 0, none⟩)) (t : TypeId) (cs : Array Value) (fr : Nat × Nat) (d : TypeDesc)
    (hg : w.heap[g]? = some (.cells cs t fr)) (hu : P.underlying ty = some d) (hd : (match d with | .struct _ | .array _ _ => true | _ => false) = true) (hi : (P.info? ty).map (·.size) = some cs.size) : (execOp a.eval o).run P w = .ok (.value (.agg cs)) w := by
  unfold execOp
  simp only [ho, hx, Instr.loadAt, Instr.sureAddr, Sem.run_bind, Sem.run_pure, Result.andThen_ok, run_loadVar_row w g t ty cs fr d hg hu hd hi]
section
variable {P : Program} {ops : Array Oper} {C : World → Prop} {Q : Act → Prop}
/-- one quiet step: a load of a whole row, under whatever guard -/
theorem wpQuiet_load_rowG {rest : List Oper} {o : Oper} {a : Act} (e1 : Region.wanted o (yielded ops a.tmps) = true) (ty : TypeId) (x : Operand) (ho : o.op = .load ty x) (g : Nat) (hx : a.eval x = .pointer (some ⟨g, 0, none⟩)) (t : TypeId) (cs : Array Value) (fr : Nat × Nat) (d : TypeDesc)
    (hg : ∀ w, C w → w.heap[g]? = some (.cells cs t fr)) (hu : P.underlying ty = some d) (hd : (match d with | .struct _ | .array _ _ => true | _ => false) = true) (hi : (P.info? ty).map (·.size) = some cs.size)
    (h : wpQuiet P ops C Q rest (a.put o.dst (.agg cs))) : wpQuiet P ops C Q (o :: rest) a := by
  unfold wpQuiet
  rw [if_pos e1]
  refine ⟨.agg cs, fun w hw => ?_, h⟩
  unfold Oper.quietAt execOp
  simp only [ho, hx, Instr.loadAt, Instr.sureAddr, Sem.run_bind, Sem.run_pure, Result.andThen_ok, run_loadVar_row w g t ty cs fr d (hg w hw) hu hd hi]
  exact ⟨rfl, rfl⟩
/-- one quiet step: a call, under whatever guard -/
theorem wpQuiet_callG {rest : List Oper} {o : Oper} {a : Act} (e1 : Region.wanted o (yielded ops a.tmps) = true) (f : FuncId) {fn : Func} (hf : P.funcs[f]? = some fn) (hnm : decide (fn.name = "runtime.NumGoroutine") = false) (hbd : fn.body.isNone = false) (xs : Array Operand) (ts : Array TypeId)
    (ho : o.op = .call { callee := .value (.func f), args := xs, argTypes := ts }) (args : Array Value) (hargs : (xs.toList.map a.eval).toArray = args) (v : Value)
    (hc : ∀ w, C w → Calls P f args w fun e w' => e = .returned v ∧ C w') (h : wpQuiet P ops C Q rest (a.put o.dst v)) : wpQuiet P ops C Q (o :: rest) a := by
  unfold wpQuiet
  rw [if_pos e1]
  refine ⟨v, fun w hw => ?_, h⟩
  have := hc w hw
  have hxs : xs.map a.eval = args := by rw [← hargs]; exact Array.toList_inj.1 (by rw [Array.toList_map])
  rw [← hxs] at this
  unfold Oper.quietAt
  have e : (execOp a.eval o).run P w = .ok (.enter f (xs.map a.eval)) w := by
    have h1 : ¬ fn.name = "runtime.NumGoroutine" := of_decide_eq_false hnm
    have h2 : ¬ fn.body = none := fun e => by rw [e] at hbd; cases hbd
    simp [execOp, ho, resolve, invoke, Act.eval, Deferred.ofValue, callFunc, hf, h1, h2]
  rw [e]
  exact ⟨rfl, this⟩
end
end Go.Proofs.YtmenkahkdcjkiaaDoor
