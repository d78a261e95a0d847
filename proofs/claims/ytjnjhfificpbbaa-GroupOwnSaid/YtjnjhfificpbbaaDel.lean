/- slices.Delete, at one element of a slice of the program's own, moves the later elements to the left. -/
import Derived.Test.YtjnjhfificpbbaaProg
import Derived.Test.YtjnjhfificpbbaaBase
import Derived.Test.YtjnjhfificpbbaaLists
import Derived.Test.YtjnjhfificpbbaaMul
import Derived.Test.YtjnjhfificpbbaaRange
import Derived.Deep.RegionLaw
import Derived.Lib.SliceRun
namespace Go.Proofs.Ytjnjhfificpbbaa
open Go.RowKit

theorem zeroInt (w : World) : (zeroValue 3).run Try.prog w = .ok (.int .i64 0) w := by kernel_rfl

def layL : List Int → Nat → List Int → List Int
  | cs, _, [] => cs
  | cs, k, x :: r => layL (cs.set k x) (k + 1) r
theorem length_layL : ∀ (l cs : List Int) (k : Nat), (layL cs k l).length = cs.length
  | [], _, _ => rfl
  | x :: r, cs, k => by rw [layL, length_layL r]; simp
theorem layL_eq : ∀ (l cs : List Int) (k : Nat), k + l.length ≤ cs.length → layL cs k l = cs.take k ++ l ++ cs.drop (k + l.length)
  | [], cs, k, _ => by simp [layL]
  | x :: r, cs, k, h => by
    simp only [List.length_cons] at h
    rw [layL, layL_eq r _ _ (by simp; omega), List.take_succ_eq_append_getElem (by simp; omega)]
    simp [List.take_set, List.drop_set]
    rw [if_pos (by omega), List.set_eq_of_length_le (by simp; omega), show k + 1 + r.length = k + (r.length + 1) from by omega]

theorem Blk.setCells {g : Nat} {t : TypeId} : ∀ (l cs : List Int) (w : World) (k : Nat), Blk w g t (ints cs) → Blk (w.setCells g k (l.map (Value.int .i64))) g t (ints (layL cs k l))
  | [], _, _, _, h => h
  | x :: r, cs, w, k, h => by
    have := h.set k (.int .i64 x)
    rw [ints_set] at this
    exact Blk.setCells r _ _ _ this
theorem Turns.setCells {priv : Nat → Prop} {A : World} {g : Nat} (hp : priv g) : ∀ (l : List Value) (B : World) (k : Nat), Turns priv A B → Turns priv A (B.setCells g k l)
  | [], _, _, h => h
  | _ :: r, _, _, h => Turns.setCells hp r _ _ (h.setCell _ _ _ hp)

theorem del_list (cs mv : List Int) (i m : Nat) (hm : m ≤ cs.length) (hi : i < m) (hl : mv.length = m - (i + 1)) : layL (layL cs i mv) (m - 1) [0] = cs.take i ++ mv ++ [0] ++ cs.drop m := by
  rw [layL_eq [0] _ _ (by rw [length_layL]; simp; omega), layL_eq mv cs i (by omega)]
  have e : i + mv.length = m - 1 := by omega
  have e3 : (cs.take i ++ mv).length = m - 1 := by simp; omega
  rw [e, List.take_append_of_le_length (by omega), List.take_of_length_le (by omega), List.drop_append, List.drop_eq_nil_of_le (by simp; omega), e3, List.drop_drop]
  simp only [List.length_singleton, List.nil_append]
  rw [show m - 1 + (m - 1 + 1 - (m - 1)) = m from by omega]

end Go.Proofs.Ytjnjhfificpbbaa
