/- slices.SortFunc at elements. -/
import Derived.Shelf.SlSortCmp.WholeK
import Derived.Shelf.Lay
import Derived.Ground.SlsfProg
import Derived.Test.YtdcilefiacohnaaCmpL
import Derived.Test.YtdcilefiacohnaaGen
namespace Go.Proofs
open Go.Shelf Go.RowKit Go.Lib Go.Sort
shelf_lay_g SlLaysF0.n6 Slsf 6 at Try 96 as Try.sortEl
end Go.Proofs
namespace Go.Proofs.Ytdcilefiacohnaa
open Go Go.Shelf Go.RowKit Go.Lib Go.Sort Go.Proofs

instance : Inhabited GE := ⟨GE.one⟩
/-- an element's seven cells -/
def encE (x : GE) : List Value := x.1.map (Value.int .u8)
def cfE (x y : GE) : Int := cmpLex x.1 y.1
theorem grow_two (W : World) (o1 o2 : Obj) (q : Nat) : ((W.alloc o1).alloc o2).drewN q = grow (W.drewN q) #[o1, o2] := by
  have h : (W.heap.push o1).push o2 = W.heap ++ #[o1, o2] := rfl
  have h2 : grow (W.drewN q) #[o1, o2] = { W.drewN q with heap := W.heap ++ #[o1, o2] } := rfl
  rw [h2, ← h]
  rfl
theorem ltE (x y : GE) : ltOf cfE x y = decide (cmpLex x.1 y.1 < 0) := rfl
theorem swoE : SWO (ltOf cfE) where
  irrefl x := by rw [ltE, cmpLex_self]; decide
  trans x y z h1 h2 := by rw [ltE] at *; simp at *; exact cmpLex_trans _ _ _ h1 h2
  ntrans x y z h1 h2 := by rw [ltE] at *; simp at *; have := cmpLex_ntrans x.1 y.1 z.1 (by omega) (by omega); omega
theorem totE (x y : GE) (h1 : ltOf cfE x y = false) (h2 : ltOf cfE y x = false) : x = y := by
  rw [ltE] at h1 h2
  exact Subtype.ext (cmpLex_total _ _ (by simpa using h1) (by simpa using h2))
theorem cmpLaysE (blk off size : Nat) (w : World) : CmpLays Try.prog 86 #[] encE 7 cfE blk off size w := fun _ _ _ _ x y =>
  (sortedCmp x.1 y.1 _ x.2.e7 y.2.e7).mono fun _ _ ⟨he, q, hw⟩ => ⟨he, q, _, hw.trans (grow_two _ _ _ _)⟩

theorem isAggE : ∀ w, (isAgg 78).run Try.prog w = .ok true w := fun w => by kernel_rfl
theorem sizeOfE : ∀ w, (Go.sizeOf 78).run Try.prog w = .ok 7 w := fun w => by kernel_rfl
/-- slices.SortFunc at elements: a permutation of what the row held, sorted -/
theorem sortFunc_el (blk off cap : Nat) (d : Array GE) (w : World) (hH : HoldsK encE 7 w blk off d) (hblk : blk < w.heap.size) (hsz : d.size < 4611686018427387904) :
    Calls Try.prog 96 #[.slice (some ⟨blk, off, none⟩) d.size cap, .func (.func 86) #[] #[]] w fun e w' => e = .returned (.tuple #[]) ∧ ∃ d' n os, PermIn 0 d.size d d' ∧ SortedIn (ltOf cfE) 0 d.size d' ∧ w' = sortWorldK encE 7 w blk off n d' os := by
  have eg : ∀ args w, (callFunc 86 args).run Try.prog w = .ok (.enter 86 args) w := enters_of Try.func86 (by kernel_rfl) rfl
  exact AnyQ.slices_SortFunc Try.sortEl 7 isAggE sizeOfE encE (fun x => by simp [encE, x.2.2]) (fun x v hv => by simp [encE] at hv; obtain ⟨y, _, rfl⟩ := hv; rfl) cfE swoE 86 #[] blk off cap d w eg (cmpLaysE blk off d.size w) hH hblk hsz
end Go.Proofs.Ytdcilefiacohnaa
