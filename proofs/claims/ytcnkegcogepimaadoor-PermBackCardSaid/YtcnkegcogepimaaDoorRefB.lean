/- The reference's Parity, and its comparison of lists of lists, by their meaning. -/
import Derived.Test.YtcnkegcogepimaaDoorProg
import Derived.Test.YtcnkegcogepimaaDoorBase
import Derived.Test.YtcnkegcogepimaaDoorSame
import Derived.Test.YtcnkegcogepimaaDoorRef
import Derived.Test.YtcnkegcogepimaaDoorParL
import Derived.Test.YtcnkegcogepimaaDoorCycs
import Derived.Deep.QuietTactic
import Derived.BigQuiet
namespace Go.Proofs.YtcnkegcogepimaaDoor
open Go.RowKit

theorem gtL_snoc (l : List Int) (x b : Int) : gtL (l ++ [x]) b = gtL l b + if b < x then 1 else 0 := by
  unfold gtL
  rw [List.filter_append]
  by_cases h : b < x <;> simp [h]
theorem gtL_le (l : List Int) (b : Int) : gtL l b ≤ l.length := List.length_filter_le _ _
theorem gtL_take (p : List Int) (j : Nat) (b : Int) (hj : j < p.length) : gtL (p.take (j + 1)) b = gtL (p.take j) b + if b < p.getD j 0 then 1 else 0 := by
  rw [List.take_succ_eq_append_getElem hj, gtL_snoc]
  simp [hj]
theorem ivTo_le (p : List Int) (k : Nat) : ivTo p k ≤ k * p.length := by
  induction k with
  | zero => simp [ivTo]
  | succ k ih =>
    have h1 := gtL_le (p.take k) (p.getD k 0)
    have h2 : (p.take k).length ≤ p.length := List.length_take_le' _ _
    rw [ivTo, Nat.add_mul, Nat.one_mul]
    omega

/-- v is a slice of slices that reads as the lists css. -/
def Slls (w : World) (v : Value) (css : List (List Int)) : Prop :=
  ∃ (a : Option Addr) (cap : Nat), v = .slice a css.length cap ∧
    (css = [] ∨ ∃ b off, a = some ⟨b, off, none⟩ ∧ ∀ i, i < css.length → ∃ x, w.cell? ⟨b, off + i, none⟩ = some x ∧ Sl w x (css.getD i []))

theorem Ows.slls {B : Nat} {w : World} {v : Value} {css : List (List Int)} (h : Ows B w v css) : Slls w v css := by
  obtain ⟨vs, h1, h2, h3⟩ := h
  have h0 := h2
  obtain ⟨_, h⟩ := h2
  rcases h with ⟨rfl, h⟩ | ⟨g, cap, cur, rfl, _⟩
  · have e : css.length = 0 := by omega
    obtain rfl : css = [] := List.length_eq_zero_iff.1 e
    exact ⟨none, 0, rfl, .inl rfl⟩
  · refine ⟨_, cap, by rw [h1], .inr ⟨g, 0, rfl, fun i hi => ⟨vs.getD i undef, ?_, (h3 i hi).sl⟩⟩⟩
    rw [Nat.zero_add, World.ownsRow.cellAt h0 i (by omega)]
    simp [show i < vs.length by omega]

end Go.Proofs.YtcnkegcogepimaaDoor
