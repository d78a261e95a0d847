/- Sets of elements: maps from elements to bool that only ever hold true. -/
import Derived.Test.YtdcilefiacohnaaProg
import Derived.Test.YtdcilefiacohnaaElem
import Derived.Maps.Own
import Derived.Maps.OwnOps
import Derived.Maps.OwnSet
import Derived.Maps.Views
import Derived.WideKeyPair
import Derived.DeepKeys4
namespace Go.Proofs.Ytdcilefiacohnaa
open Go Go.RowKit Go.WideMaps

theorem arrEl : ArrKey Try.prog 78 5 7 := ⟨Try.underlying78, by kernel_rfl, by kernel_rfl, by kernel_rfl⟩
theorem keyedEl : Maps.Keyed Try.prog 78 := Maps.Keyed.of_law arrEl.law
/-- what an element reads as, as a key -/
def keyL (l : List Int) : Lit := .string (keyBytes (l.map (Lit.int .u8)))

theorem wf8 {x : Int} (h0 : 0 ≤ x) (h1 : x < 7) : (Lit.int .u8 x).wf = true := by
  have e1 : IntKind.u8.min = 0 := by decide
  have e2 : IntKind.u8.max = 255 := by decide
  simp [Lit.wf, e1, e2]; omega

theorem keyOf_el {l : List Int} (h : E7 l) : keyOf Try.prog 78 (.agg (u8s l)) = some (keyL l) := by
  match l, h with
  | [x0, x1, x2, x3, x4, x5, x6], h =>
    have w0 := wf8 (h.2 0 (by omega)).1 (h.2 0 (by omega)).2
    have w1 := wf8 (h.2 1 (by omega)).1 (h.2 1 (by omega)).2
    have w2 := wf8 (h.2 2 (by omega)).1 (h.2 2 (by omega)).2
    have w3 := wf8 (h.2 3 (by omega)).1 (h.2 3 (by omega)).2
    have w4 := wf8 (h.2 4 (by omega)).1 (h.2 4 (by omega)).2
    have w5 := wf8 (h.2 5 (by omega)).1 (h.2 5 (by omega)).2
    have w6 := wf8 (h.2 6 (by omega)).1 (h.2 6 (by omega)).2
    have hsz : ∃ m, Try.prog.types.size = m + 1 := ⟨Try.prog.types.size - 1, by kernel_rfl⟩
    have A := arrEl
    have hkt := A.keyType hsz
    obtain ⟨m, hm⟩ := hsz
    show keyOf Try.prog 78 (.agg #[.int .u8 x0, .int .u8 x1, .int .u8 x2, .int .u8 x3, .int .u8 x4, .int .u8 x5, .int .u8 x6]) = some (.string (keyBytes [.int .u8 x0, .int .u8 x1, .int .u8 x2, .int .u8 x3, .int .u8 x4, .int .u8 x5, .int .u8 x6]))
    simp only [List.getD_cons_zero, List.getD_cons_succ] at w0 w1 w2 w3 w4 w5 w6
    clear h
    unfold keyOf
    simp only [A.hu]
    rw [if_pos (by simp [hkt, Value.formed, A.hu, A.size]), hm]
    unfold Program.keyLits
    simp only [A.hu, Value.cells]
    rw [if_pos (by rw [A.size]; rfl), show List.range 7 = [0, 1, 2, 3, 4, 5, 6] from rfl]
    simp only [List.mapM_cons, List.mapM_nil]
    simp [A.one, Program.keyLits, Try.underlying5, w0, w1, w2, w3, w4, w5, w6]

theorem u8s_inj {a b : List Int} (h : u8s a = u8s b) : a = b := by
  have h1 : a.map (Value.int .u8) = b.map (Value.int .u8) := by
    have := congrArg Array.toList h
    simpa [u8s] using this
  clear h
  induction a generalizing b with
  | nil => cases b with
    | nil => rfl
    | cons y b => cases h1
  | cons x a ih => cases b with
    | nil => cases h1
    | cons y b =>
      simp only [List.map_cons, List.cons.injEq, Value.int.injEq, true_and] at h1
      rw [h1.1, ih h1.2]

theorem keyL_inj {a b : List Int} (ha : E7 a) (hb : E7 b) (h : keyL a = keyL b) : a = b := by
  have h1 := keyOf_el ha
  rw [h] at h1
  have := keyedEl.inj h1 (keyOf_el hb)
  simp only [Value.agg.injEq] at this
  exact u8s_inj this

theorem plainElem_bool_inv {H : Type} {P : Program} {e : TypeId} (he : P.underlying e = some .bool) {v : Value} {z : DataW H × List MemPlace} (h : plainElem P e v = some z) : ∃ x, v = .bool x ∧ z = (.lit (.bool x), []) := by
  unfold plainElem at h
  rw [he] at h
  cases v <;> simp at h
  exact ⟨_, rfl, h.symm⟩

/-- Block b of w is the set of the elements on the list. -/
def MapS (w : World) (b : Nat) (L : List (List Int)) : Prop :=
  ∃ D : DataW Unit, w.ownsMap Try.prog 78 (plainElem Try.prog 4) b L.length D ∧ ∀ l, E7 l → D.atKey (keyL l) (.lit (.bool false)) = .lit (.bool (decide (l ∈ L)))

theorem zeroBool (w : World) : (zeroValue 4).run Try.prog w = .ok (.bool false) w := by kernel_rfl

theorem MapS.new (w : World) : MapS (w.alloc (.map #[] 0)) w.heap.size [] :=
  ⟨.map [], World.ownsMap_made w _ _ _, fun l _ => by simp; rfl⟩
theorem MapS.lt {w : World} {b : Nat} {L : List (List Int)} (h : MapS w b L) : b < w.heap.size := let ⟨_, h, _⟩ := h; h.lt
theorem MapS.kept {w w' : World} {b : Nat} {L : List (List Int)} {row : Option Nat} (h : MapS w b L) (hg : w.grownBy w' row) (hne : some b ≠ row) : MapS w' b L := by
  obtain ⟨D, h1, h2⟩ := h
  exact ⟨D, h1.kept hg hne, h2⟩
theorem MapS.below {w w' : World} {b : Nat} {L : List (List Int)} (h : MapS w b L) (hb : Below w.heap.size w w') : MapS w' b L := by
  obtain ⟨D, ⟨es, clock, h0, h1⟩, h2⟩ := h
  exact ⟨D, ⟨es, clock, (hb.block b (Array.getElem?_eq_some_iff.1 h0).1).trans h0, h1⟩, h2⟩
/-- the same block, unchanged, elsewhere -/
theorem MapS.same {w w' : World} {b : Nat} {L : List (List Int)} (h : MapS w b L) (hb : w'.heap[b]? = w.heap[b]?) : MapS w' b L := by
  obtain ⟨D, ⟨es, clock, h0, h1⟩, h2⟩ := h
  exact ⟨D, ⟨es, clock, hb.trans h0, h1⟩, h2⟩
theorem MapS.get {w : World} {b : Nat} {L : List (List Int)} (h : MapS w b L) {l : List Int} (hl : E7 l) : (Instr.lookup 73 (.map (some b)) (.agg (u8s l)) false).run Try.prog w = .ok (.bool (decide (l ∈ L))) w := by
  obtain ⟨D, h1, h2⟩ := h
  obtain ⟨v, ps, hrun, hv⟩ := h1.lookup keyedEl Try.underlying73 (zeroBool w) (plainElem_bool Try.underlying4 false) (keyOf_el hl)
  obtain ⟨x, rfl, hx⟩ := plainElem_bool_inv Try.underlying4 hv
  simp only [Prod.mk.injEq] at hx
  have := h2 l hl
  rw [hx.1] at this
  cases this
  exact hrun
theorem MapS.set {w : World} {b : Nat} {L : List (List Int)} (h : MapS w b L) {l : List Int} (hl : E7 l) (hn : L.length < maxLen) : ∃ w', (Instr.mapUpdate 73 (.map (some b)) (.agg (u8s l)) (.bool true)).run Try.prog w = .ok () w' ∧ MapS w' b (l :: L) ∧ w.grownBy w' (some b) := by
  obtain ⟨D, h1, h2⟩ := h
  obtain ⟨w', hrun, h3, h4⟩ := h1.update keyedEl Try.underlying73 hn (keyOf_el hl) (plainElem_bool Try.underlying4 true)
  refine ⟨w', hrun, ⟨_, h3, fun x hx => ?_⟩, h4⟩
  by_cases e : x = l
  · subst e
    rw [Maps.atKey_put_same h1.isMap (keyedEl.key (keyOf_el hl))]
    simp
  · rw [Maps.atKey_put_other (fun h => e (keyL_inj hx hl h)), h2 x hx]
    simp [e]

/-- the look-up, for the walk -/
theorem wpList_look_set {ops : Array Oper} {rest : List Oper} {o : Oper} {a : Act} {w : World} {Q : Exit → Act → World → Prop} (hg : o.guard = none) (m x : Operand) (hop : o.op = Op.lookup 73 m x false)
    (b : Nat) (L : List (List Int)) (hm : a.eval m = .map (some b)) (h : MapS w b L) (l : List Int) (hx : a.eval x = .agg (u8s l)) (hl : E7 l) (hK : wpList Try.prog ops Q rest (a.put o.dst (.bool (decide (l ∈ L)))) w) : wpList Try.prog ops Q (o :: rest) a w := by
  refine wpList_plain hg fun K' hK' => ?_
  unfold Oper.wp
  simp [execOp, hop, hm, hx, h.get hl, Result.andThen]
  exact hK' _ _ hK
/-- the store of true, for the walk -/
theorem wpList_put_set {ops : Array Oper} {rest : List Oper} {o : Oper} {a : Act} {w : World} {Q : Exit → Act → World → Prop} (hg : o.guard = none) (m x v : Operand) (hop : o.op = Op.mapUpdate 73 m x v)
    (b : Nat) (L : List (List Int)) (hm : a.eval m = .map (some b)) (h : MapS w b L) (hn : L.length < maxLen) (l : List Int) (hx : a.eval x = .agg (u8s l)) (hv : a.eval v = .bool true) (hl : E7 l)
    (hK : ∀ w', MapS w' b (l :: L) → w.grownBy w' (some b) → wpList Try.prog ops Q rest (a.put o.dst undef) w') : wpList Try.prog ops Q (o :: rest) a w := by
  refine wpList_plain hg fun K' hK' => ?_
  obtain ⟨w', hrun, h1, h2⟩ := h.set hl hn
  unfold Oper.wp
  simp [execOp, hop, hm, hx, hv, hrun, Result.andThen]
  exact hK' _ _ (hK w' h1 h2)
end Go.Proofs.Ytdcilefiacohnaa
