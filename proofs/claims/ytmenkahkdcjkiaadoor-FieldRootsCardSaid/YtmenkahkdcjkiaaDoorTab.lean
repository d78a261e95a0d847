/- From the rows' condition on the two tables to what the walks ask. -/
import Derived.Test.YtmenkahkdcjkiaaDoorRows
import Derived.Test.YtmenkahkdcjkiaaDoorFval
import Derived.ProofKit
import Derived.OpenShut
import Derived.Lib.LaidTab
namespace Go.Proofs.YtmenkahkdcjkiaaDoor
open Go.ChangeShapes Go.WideShapes Go.ChangeAt Go.RowKit

theorem gMod : Tryd.prog.globalNamed "commodatum/field.moduli" = some 0 := by kernel_rfl
theorem gModT : (Tryd.prog.globals[(0 : Nat)]?).map (·.type) = some 45 := by kernel_rfl
theorem gPrm : Tryd.prog.globalNamed "commodatum/field.smallPrimes" = some 1 := by kernel_rfl
theorem gPrmT : (Tryd.prog.globals[(1 : Nat)]?).map (·.type) = some 57 := by kernel_rfl
theorem cells3 : Tryd.prog.cellsOf 3 = 1 := by kernel_rfl
theorem cells45 : Tryd.prog.cellsOf 45 = 17 := by kernel_rfl
theorem cells56 : Tryd.prog.cellsOf 56 = 1 := by kernel_rfl
def modZ : List Int := [0, 0, 7, 11, 19, 37, 67, 131, 283, 515, 1033, 2053, 4105, 8219, 16417, 32771, 65579]
theorem modZ_get : ∀ i, i < 17 → modZ.getD i 0 = (modl i : Nat) := by decide
def prmZ : List Int := smallP.map fun (x : Nat) => (x : Int)
theorem prmZ_get : ∀ i, i < 54 → prmZ.getD i 0 = (smallP.getD i 0 : Nat) := by decide +kernel
theorem lits_inj {H : Type} {k : IntKind} : ∀ {a b : List Int}, (lits k a : List (DataW H)) = lits k b → a = b
  | [], [], _ => rfl
  | [], _ :: _, h => by simp [lits] at h
  | _ :: _, [], h => by simp [lits] at h
  | x :: a, y :: b, h => by
    simp [lits] at h
    rw [h.1, lits_inj (show (lits k a : List (DataW H)) = lits k b by simpa [lits] using h.2)]

theorem tab_of_laid {W : World} (h : laidMet Tryd.prog [("commodatum/field.moduli", Rows.laid_commodatum_field_moduli), ("commodatum/field.smallPrimes", Rows.laid_commodatum_field_smallPrimes)] W) : Tab W := by
  have h1 := Lib.tabIs_of_head (zs := modZ) gMod gModT Tryd.underlying45 Tryd.underlying3 cells3 cells45 h
  obtain ⟨ps, ⟨_, _, _, _, _, q, _, _, _, _, hr, _⟩, _⟩ := h
  obtain ⟨g', t', cs, fuel, p, q', hg', ht', hvar, hd, _, _⟩ := hr
  obtain rfl := Option.some.inj (gPrm.symm.trans hg')
  obtain rfl := Option.some.inj (gPrmT.symm.trans ht')
  refine ⟨fun i hi => ?_, ?_⟩
  · rw [h1.cell gMod i hi, modZ_get i hi]
  · rcases open_ints Tryd.underlying57 Tryd.underlying56 cells56 hd with ⟨_, hx⟩ | ⟨a, len, cap, zs, hcs, _, hl, _, hz, hx, hcell, _⟩
    · cases hx
    · have hx1 : (Rows.laid_commodatum_field_smallPrimes : DataW Unit) = .slice (lits .u32 prmZ) [] := rfl
      rw [hx1] at hx
      have e1 : (.slice (lits .u32 prmZ) [] : DataW Unit) = .slice (lits .u32 (zs.take len)) (lits .u32 (zs.drop len)) := congrArg Prod.fst hx
      injection e1 with e1 e2
      have e3 := lits_inj e1
      have hlz : zs.length = cap := by simpa using hz
      have h54 : (zs.take len).length = 54 := by rw [← e3]; rfl
      have hlen : len = 54 := by rw [List.length_take] at h54; omega
      subst hlen
      have hc0 := World.var?_cell gPrm hvar 0
      have hcs' : cs[0]? = some (.slice (some a) 54 cap) := by
        rw [← Array.getElem?_toList, hcs]; rfl
      rw [hcs'] at hc0
      obtain ⟨b, off, sp⟩ := a
      have hsp : sp = none := by
        have h := hcell 0 (by omega)
        unfold World.cell? Addr.add at h
        cases sp with
        | none => rfl
        | some s => simp at h; split at h <;> simp at h
      subst hsp
      refine ⟨b, off, cap, hc0, fun i hi => ?_⟩
      have := hcell i (by omega)
      rw [Addr.add_lit] at this
      rw [this]
      have e4 : zs.getD i 0 = (zs.take 54).getD i 0 := by simp [hi]
      rw [e4, ← e3, prmZ_get i hi]
end Go.Proofs.YtmenkahkdcjkiaaDoor
