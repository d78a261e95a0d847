/- An array of three integers as the rows read it. -/
import Derived.Test.YtmenkahkdcjkiaaDoorBase
import Derived.ProofKit
import Derived.OpenShut
import Derived.Laws.IdiomArrays
namespace Go.Proofs.YtmenkahkdcjkiaaDoor
open Go.ChangeShapes Go.WideShapes Go.ChangeAt Go.RowKit
variable {H : Type} {enc : TypeId × Value → H} {P : Program} {w : World} {base : Nat} {spare : Nat → Bool} {held : Bool}

theorem open_arr3 {r : Reach} {b0 : Nat} {t e : TypeId} {v : Value} {d : DataW H} {p : List MemPlace} (hs : P.underlying t = some (.array 3 e)) (he : P.underlying e = some (.int .i64)) (hce : P.cellsOf e = 1) (hC : P.cellsOf t = 3)
    (hv : Value.okWide P w r b0 t v) (h : DataW.Trod enc P w base spare held t v d p) :
    ∃ l0 l1 l2 : Int, v = .agg #[.int .i64 l0, .int .i64 l1, .int .i64 l2] ∧ d = .agg [.lit (.int .i64 l0), .lit (.int .i64 l1), .lit (.int .i64 l2)] ∧ p = [] ∧ (Lit.int .i64 l0).wf = true ∧ (Lit.int .i64 l1).wf = true ∧ (Lit.int .i64 l2).wf = true := by
  unfold Value.okWide at hv
  rw [hs] at hv
  obtain ⟨cs, rfl, hsz, _⟩ := hv
  rw [hC] at hsz
  obtain ⟨l⟩ := cs
  match l, hsz with
  | [c0, c1, c2], _ =>
    obtain ⟨fuel, hf⟩ := h
    obtain ⟨y0, y1, y2, n, hx, h0, h1, h2⟩ := trod_array3 hs hce hf
    obtain ⟨l0, e0, rfl, w0⟩ := DataW.trod_int he h0
    obtain ⟨l1, e1, rfl, w1⟩ := DataW.trod_int he h1
    obtain ⟨l2, e2, rfl, w2⟩ := DataW.trod_int he h2
    simp at e0 e1 e2
    subst e0 e1 e2
    cases hx
    exact ⟨l0, l1, l2, rfl, rfl, rfl, w0, w1, w2⟩
theorem shut_arr3 {t e : TypeId} {l0 l1 l2 : Int} (hs : P.underlying t = some (.array 3 e)) (he : P.underlying e = some (.int .i64)) (hce : P.cellsOf e = 1) (hC : P.cellsOf t = 3)
    (w0 : (Lit.int .i64 l0).wf = true) (w1 : (Lit.int .i64 l1).wf = true) (w2 : (Lit.int .i64 l2).wf = true) :
    DataW.Trod enc P w base spare held t (.agg #[.int .i64 l0, .int .i64 l1, .int .i64 l2]) (.agg [.lit (.int .i64 l0), .lit (.int .i64 l1), .lit (.int .i64 l2)]) [] := by
  refine ⟨2, ?_⟩
  have r3 : List.range 3 = [0, 1, 2] := rfl
  simp [DataW.trod, hs, he, hce, hC, r3, w0, w1, w2, Value.cells]
end Go.Proofs.YtmenkahkdcjkiaaDoor
