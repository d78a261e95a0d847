/-
  No cell of these rows narrows 'for every input' (looked for: loops, veiled, ifaces, maps, wideKeys, modest, calm, conditions, laid).
  DERIVED. THE GIVEN ROWS OF THIS SEAT. 10 by the template 'for every input the law returns true; each argument reads behind the call as it read before'; 0 by the template 'total and deterministic' (their statements: YtjnjhfificpbbaaTotals.lean).
  GIVEN WITH THE SEED: the statements are not yours to turn. If you find one false, say at which input.
  Laid BY PROGRAM, IN A SANDBOX (cutbox-rows.mjs): the forced cells as the released guide's own fill.sh prints them over the translation ec5e0b6869929a52… (all of the seat's roots in one cut). By AI agents, Wed Nov 11 2026. No macro, syntax, notation, axiom, sorry.
-/
import Derived.Test.YtjnjhfificpbbaaChecked
import GoSem.Claim
import GoSem.ClaimJoined
import GoSem.ClaimMapViews
import Derived.JoinedTies
import Derived.KernelRfl
namespace Go.Proofs.Ytjnjhfificpbbaa
/- THE CELL 'sum', in the pinned program and in every row, IS THE sha256 OF THE DUMP (.gsa) THAT YtjnjhfificpbbaaProg.lean LOADS. Nothing in Lean hashes anything: it is a label: what it is worth is what the hold of that sum in a sandbox is worth. -/
noncomputable def Try.pinned : Pinned := { name := "ytjnjhfificpbbaa", sum := "ec5e0b6869929a52dad5e9df4368af2f01111c82e0aec23207cd1d48f870b315", checked := Try.checked }
namespace Rows
def none {H : Type} : Left H := { results := [], args := [] }

/-- 'commodatumlaw02.GroupCloses': WHATEVER THE INPUT: true; the input reads as it did. -/
def groupClosesSpec : ChangeSpec := { name := "groupCloses", fn := fun _ => fun
  | [d] => { results := [.lit (.bool true)], args := [d] }
  | _ => none }
def groupClosesRow : OpenClaim := { program := "ytjnjhfificpbbaa", sum := "ec5e0b6869929a52dad5e9df4368af2f01111c82e0aec23207cd1d48f870b315", func := "commodatum/commodatumlaw02.GroupCloses", spec := "groupCloses", unfollowed := true, recurses := true, plainKeys := false, apart := false }
def GroupClosesSaid : Prop := groupClosesRow.holds Try.pinned (OpenSpec.ofChange groupClosesSpec)

/-- ITS FALSE NEIGHBOUR: 'it returns false'. Refute it at one input. -/
def groupClosesWrong : ChangeSpec := { name := "groupCloses", fn := fun _ => fun
  | [d] => { results := [.lit (.bool false)], args := [d] }
  | _ => none }
def GroupClosesWrongFalsely : Prop := groupClosesRow.holds Try.pinned (OpenSpec.ofChange groupClosesWrong)

/-- 'commodatumlaw02.GroupForms': WHATEVER THE INPUT: true; the input reads as it did. -/
def groupFormsSpec : ChangeSpec := { name := "groupForms", fn := fun _ => fun
  | [d1, d2] => { results := [.lit (.bool true)], args := [d1, d2] }
  | _ => none }
def groupFormsRow : OpenClaim := { program := "ytjnjhfificpbbaa", sum := "ec5e0b6869929a52dad5e9df4368af2f01111c82e0aec23207cd1d48f870b315", func := "commodatum/commodatumlaw02.GroupForms", spec := "groupForms", unfollowed := true, recurses := true, plainKeys := false, apart := false }
def GroupFormsSaid : Prop := groupFormsRow.holds Try.pinned (OpenSpec.ofChange groupFormsSpec)

/-- ITS FALSE NEIGHBOUR: 'it returns false'. Refute it at one input. -/
def groupFormsWrong : ChangeSpec := { name := "groupForms", fn := fun _ => fun
  | [d1, d2] => { results := [.lit (.bool false)], args := [d1, d2] }
  | _ => none }
def GroupFormsWrongFalsely : Prop := groupFormsRow.holds Try.pinned (OpenSpec.ofChange groupFormsWrong)

/-- 'commodatumlaw02.GroupSeries': WHATEVER THE INPUT: true; the input reads as it did. -/
def groupSeriesSpec : ChangeSpec := { name := "groupSeries", fn := fun _ => fun
  | [d] => { results := [.lit (.bool true)], args := [d] }
  | _ => none }
def groupSeriesRow : OpenClaim := { program := "ytjnjhfificpbbaa", sum := "ec5e0b6869929a52dad5e9df4368af2f01111c82e0aec23207cd1d48f870b315", func := "commodatum/commodatumlaw02.GroupSeries", spec := "groupSeries", unfollowed := true, recurses := true, plainKeys := false, apart := false }
def GroupSeriesSaid : Prop := groupSeriesRow.holds Try.pinned (OpenSpec.ofChange groupSeriesSpec)

/-- ITS FALSE NEIGHBOUR: 'it returns false'. Refute it at one input. -/
def groupSeriesWrong : ChangeSpec := { name := "groupSeries", fn := fun _ => fun
  | [d] => { results := [.lit (.bool false)], args := [d] }
  | _ => none }
def GroupSeriesWrongFalsely : Prop := groupSeriesRow.holds Try.pinned (OpenSpec.ofChange groupSeriesWrong)

/-- 'commodatumlaw02.GroupNormals': WHATEVER THE INPUT: true; the input reads as it did. -/
def groupNormalsSpec : ChangeSpec := { name := "groupNormals", fn := fun _ => fun
  | [d1, d2] => { results := [.lit (.bool true)], args := [d1, d2] }
  | _ => none }
def groupNormalsRow : OpenClaim := { program := "ytjnjhfificpbbaa", sum := "ec5e0b6869929a52dad5e9df4368af2f01111c82e0aec23207cd1d48f870b315", func := "commodatum/commodatumlaw02.GroupNormals", spec := "groupNormals", unfollowed := true, recurses := true, plainKeys := false, apart := false }
def GroupNormalsSaid : Prop := groupNormalsRow.holds Try.pinned (OpenSpec.ofChange groupNormalsSpec)

/-- ITS FALSE NEIGHBOUR: 'it returns false'. Refute it at one input. -/
def groupNormalsWrong : ChangeSpec := { name := "groupNormals", fn := fun _ => fun
  | [d1, d2] => { results := [.lit (.bool false)], args := [d1, d2] }
  | _ => none }
def GroupNormalsWrongFalsely : Prop := groupNormalsRow.holds Try.pinned (OpenSpec.ofChange groupNormalsWrong)

/-- 'commodatumlaw02.GroupClasses': WHATEVER THE INPUT: true; the input reads as it did. -/
def groupClassesSpec : ChangeSpec := { name := "groupClasses", fn := fun _ => fun
  | [d] => { results := [.lit (.bool true)], args := [d] }
  | _ => none }
def groupClassesRow : OpenClaim := { program := "ytjnjhfificpbbaa", sum := "ec5e0b6869929a52dad5e9df4368af2f01111c82e0aec23207cd1d48f870b315", func := "commodatum/commodatumlaw02.GroupClasses", spec := "groupClasses", unfollowed := true, recurses := true, plainKeys := false, apart := false }
def GroupClassesSaid : Prop := groupClassesRow.holds Try.pinned (OpenSpec.ofChange groupClassesSpec)

/-- ITS FALSE NEIGHBOUR: 'it returns false'. Refute it at one input. -/
def groupClassesWrong : ChangeSpec := { name := "groupClasses", fn := fun _ => fun
  | [d] => { results := [.lit (.bool false)], args := [d] }
  | _ => none }
def GroupClassesWrongFalsely : Prop := groupClassesRow.holds Try.pinned (OpenSpec.ofChange groupClassesWrong)

/-- 'commodatumlaw02.GroupPairs': WHATEVER THE INPUT: true; the input reads as it did. -/
def groupPairsSpec : ChangeSpec := { name := "groupPairs", fn := fun _ => fun
  | [d1, d2] => { results := [.lit (.bool true)], args := [d1, d2] }
  | _ => none }
def groupPairsRow : OpenClaim := { program := "ytjnjhfificpbbaa", sum := "ec5e0b6869929a52dad5e9df4368af2f01111c82e0aec23207cd1d48f870b315", func := "commodatum/commodatumlaw02.GroupPairs", spec := "groupPairs", unfollowed := true, recurses := true, plainKeys := false, apart := false }
def GroupPairsSaid : Prop := groupPairsRow.holds Try.pinned (OpenSpec.ofChange groupPairsSpec)

/-- ITS FALSE NEIGHBOUR: 'it returns false'. Refute it at one input. -/
def groupPairsWrong : ChangeSpec := { name := "groupPairs", fn := fun _ => fun
  | [d1, d2] => { results := [.lit (.bool false)], args := [d1, d2] }
  | _ => none }
def GroupPairsWrongFalsely : Prop := groupPairsRow.holds Try.pinned (OpenSpec.ofChange groupPairsWrong)

/-- 'commodatumlaw02.GroupLaws': WHATEVER THE INPUT: true; the input reads as it did. -/
def groupLawsSpec : ChangeSpec := { name := "groupLaws", fn := fun _ => fun
  | [d1, d2] => { results := [.lit (.bool true)], args := [d1, d2] }
  | _ => none }
def groupLawsRow : OpenClaim := { program := "ytjnjhfificpbbaa", sum := "ec5e0b6869929a52dad5e9df4368af2f01111c82e0aec23207cd1d48f870b315", func := "commodatum/commodatumlaw02.GroupLaws", spec := "groupLaws", unfollowed := true, recurses := true, plainKeys := false, apart := false }
def GroupLawsSaid : Prop := groupLawsRow.holds Try.pinned (OpenSpec.ofChange groupLawsSpec)

/-- ITS FALSE NEIGHBOUR: 'it returns false'. Refute it at one input. -/
def groupLawsWrong : ChangeSpec := { name := "groupLaws", fn := fun _ => fun
  | [d1, d2] => { results := [.lit (.bool false)], args := [d1, d2] }
  | _ => none }
def GroupLawsWrongFalsely : Prop := groupLawsRow.holds Try.pinned (OpenSpec.ofChange groupLawsWrong)

/-- 'commodatumlaw02.GroupCounts': WHATEVER THE INPUT: true; the input reads as it did. -/
def groupCountsSpec : ChangeSpec := { name := "groupCounts", fn := fun _ => fun
  | [d] => { results := [.lit (.bool true)], args := [d] }
  | _ => none }
def groupCountsRow : OpenClaim := { program := "ytjnjhfificpbbaa", sum := "ec5e0b6869929a52dad5e9df4368af2f01111c82e0aec23207cd1d48f870b315", func := "commodatum/commodatumlaw02.GroupCounts", spec := "groupCounts", unfollowed := true, recurses := true, plainKeys := false, apart := false }
def GroupCountsSaid : Prop := groupCountsRow.holds Try.pinned (OpenSpec.ofChange groupCountsSpec)

/-- ITS FALSE NEIGHBOUR: 'it returns false'. Refute it at one input. -/
def groupCountsWrong : ChangeSpec := { name := "groupCounts", fn := fun _ => fun
  | [d] => { results := [.lit (.bool false)], args := [d] }
  | _ => none }
def GroupCountsWrongFalsely : Prop := groupCountsRow.holds Try.pinned (OpenSpec.ofChange groupCountsWrong)

/-- 'commodatumlaw02.GroupLarge': WHATEVER THE INPUT: true; the input reads as it did. -/
def groupLargeSpec : ChangeSpec := { name := "groupLarge", fn := fun _ => fun
  | [d] => { results := [.lit (.bool true)], args := [d] }
  | _ => none }
def groupLargeRow : OpenClaim := { program := "ytjnjhfificpbbaa", sum := "ec5e0b6869929a52dad5e9df4368af2f01111c82e0aec23207cd1d48f870b315", func := "commodatum/commodatumlaw02.GroupLarge", spec := "groupLarge", unfollowed := true, recurses := true, plainKeys := false, apart := false }
def GroupLargeSaid : Prop := groupLargeRow.holds Try.pinned (OpenSpec.ofChange groupLargeSpec)

/-- ITS FALSE NEIGHBOUR: 'it returns false'. Refute it at one input. -/
def groupLargeWrong : ChangeSpec := { name := "groupLarge", fn := fun _ => fun
  | [d] => { results := [.lit (.bool false)], args := [d] }
  | _ => none }
def GroupLargeWrongFalsely : Prop := groupLargeRow.holds Try.pinned (OpenSpec.ofChange groupLargeWrong)

/-- 'commodatumlaw02.GroupOwn': WHATEVER THE INPUT: true; the input reads as it did. -/
def groupOwnSpec : ChangeSpec := { name := "groupOwn", fn := fun _ => fun
  | [d] => { results := [.lit (.bool true)], args := [d] }
  | _ => none }
def groupOwnRow : OpenClaim := { program := "ytjnjhfificpbbaa", sum := "ec5e0b6869929a52dad5e9df4368af2f01111c82e0aec23207cd1d48f870b315", func := "commodatum/commodatumlaw02.GroupOwn", spec := "groupOwn", unfollowed := true, recurses := true, plainKeys := false, apart := false }
def GroupOwnSaid : Prop := groupOwnRow.holds Try.pinned (OpenSpec.ofChange groupOwnSpec)

/-- ITS FALSE NEIGHBOUR: 'it returns false'. Refute it at one input. -/
def groupOwnWrong : ChangeSpec := { name := "groupOwn", fn := fun _ => fun
  | [d] => { results := [.lit (.bool false)], args := [d] }
  | _ => none }
def GroupOwnWrongFalsely : Prop := groupOwnRow.holds Try.pinned (OpenSpec.ofChange groupOwnWrong)

/- THE SECOND FORM. 'bulk': how many values and letters a reading holds, each counted each time it is reached (what is shared counts as often as it is met; a slice's spare places count too). A statement '..UptoSaid' is the law's where the arguments, and the package variables that the reading takes, are together of bulk at most 1048576: NARROWER than '..Said'. Prove '..Said' where nothing that the law and all that it calls make is longer than what came in: it says more and counts as full. Else prove '..UptoSaid'. A law counts once. -/
mutual
def uptoBulk {H : Type} : DataW H → Nat
  | .lit (.string bytes) => bytes.length + 1
  | .lit _ => 1
  | .nil => 1
  | .ptr d => uptoBulk d + 1
  | .slice elems spare => uptoBulkAll elems + uptoBulkAll spare + 1
  | .agg parts => uptoBulkAll parts + 1
  | .iface _ d => uptoBulk d + 1
  | .map entries => uptoBulkEntries entries + 1
  | .held _ => 1
def uptoBulkAll {H : Type} : List (DataW H) → Nat
  | [] => 0
  | d :: r => uptoBulk d + uptoBulkAll r
def uptoBulkEntries {H : Type} : List (Lit × DataW H) → Nat
  | [] => 0
  | x :: r => uptoBulkEntry x + uptoBulkEntries r
def uptoBulkEntry {H : Type} : Lit × DataW H → Nat
  | (.string bytes, d) => bytes.length + uptoBulk d + 1
  | (_, d) => uptoBulk d + 1
 end
def uptoSmall : (H : Type) → List (DataW H) → Bool := fun _ ds => decide (uptoBulkAll ds ≤ 1048576)
def OpenSpec.upto (s : _root_.Go.ChangeSpec) : _root_.Go.OpenSpec := { _root_.Go.OpenSpec.ofChange s with cond := some uptoSmall }

/-- 'commodatumlaw02.GroupCloses', WHERE WHAT IT READS IS OF BULK AT MOST 1048576: true; the input reads as it did. -/
def groupClosesUptoRow : OpenClaim := { program := "ytjnjhfificpbbaa", sum := "ec5e0b6869929a52dad5e9df4368af2f01111c82e0aec23207cd1d48f870b315", func := "commodatum/commodatumlaw02.GroupCloses", spec := "groupCloses", unfollowed := true, recurses := true, plainKeys := false, apart := false, narrowed := true }
def GroupClosesUptoSaid : Prop := groupClosesUptoRow.holds Try.pinned (OpenSpec.upto groupClosesSpec)

/-- 'commodatumlaw02.GroupForms', WHERE WHAT IT READS IS OF BULK AT MOST 1048576: true; the input reads as it did. -/
def groupFormsUptoRow : OpenClaim := { program := "ytjnjhfificpbbaa", sum := "ec5e0b6869929a52dad5e9df4368af2f01111c82e0aec23207cd1d48f870b315", func := "commodatum/commodatumlaw02.GroupForms", spec := "groupForms", unfollowed := true, recurses := true, plainKeys := false, apart := false, narrowed := true }
def GroupFormsUptoSaid : Prop := groupFormsUptoRow.holds Try.pinned (OpenSpec.upto groupFormsSpec)

/-- 'commodatumlaw02.GroupSeries', WHERE WHAT IT READS IS OF BULK AT MOST 1048576: true; the input reads as it did. -/
def groupSeriesUptoRow : OpenClaim := { program := "ytjnjhfificpbbaa", sum := "ec5e0b6869929a52dad5e9df4368af2f01111c82e0aec23207cd1d48f870b315", func := "commodatum/commodatumlaw02.GroupSeries", spec := "groupSeries", unfollowed := true, recurses := true, plainKeys := false, apart := false, narrowed := true }
def GroupSeriesUptoSaid : Prop := groupSeriesUptoRow.holds Try.pinned (OpenSpec.upto groupSeriesSpec)

/-- 'commodatumlaw02.GroupNormals', WHERE WHAT IT READS IS OF BULK AT MOST 1048576: true; the input reads as it did. -/
def groupNormalsUptoRow : OpenClaim := { program := "ytjnjhfificpbbaa", sum := "ec5e0b6869929a52dad5e9df4368af2f01111c82e0aec23207cd1d48f870b315", func := "commodatum/commodatumlaw02.GroupNormals", spec := "groupNormals", unfollowed := true, recurses := true, plainKeys := false, apart := false, narrowed := true }
def GroupNormalsUptoSaid : Prop := groupNormalsUptoRow.holds Try.pinned (OpenSpec.upto groupNormalsSpec)

/-- 'commodatumlaw02.GroupClasses', WHERE WHAT IT READS IS OF BULK AT MOST 1048576: true; the input reads as it did. -/
def groupClassesUptoRow : OpenClaim := { program := "ytjnjhfificpbbaa", sum := "ec5e0b6869929a52dad5e9df4368af2f01111c82e0aec23207cd1d48f870b315", func := "commodatum/commodatumlaw02.GroupClasses", spec := "groupClasses", unfollowed := true, recurses := true, plainKeys := false, apart := false, narrowed := true }
def GroupClassesUptoSaid : Prop := groupClassesUptoRow.holds Try.pinned (OpenSpec.upto groupClassesSpec)

/-- 'commodatumlaw02.GroupPairs', WHERE WHAT IT READS IS OF BULK AT MOST 1048576: true; the input reads as it did. -/
def groupPairsUptoRow : OpenClaim := { program := "ytjnjhfificpbbaa", sum := "ec5e0b6869929a52dad5e9df4368af2f01111c82e0aec23207cd1d48f870b315", func := "commodatum/commodatumlaw02.GroupPairs", spec := "groupPairs", unfollowed := true, recurses := true, plainKeys := false, apart := false, narrowed := true }
def GroupPairsUptoSaid : Prop := groupPairsUptoRow.holds Try.pinned (OpenSpec.upto groupPairsSpec)

/-- 'commodatumlaw02.GroupLaws', WHERE WHAT IT READS IS OF BULK AT MOST 1048576: true; the input reads as it did. -/
def groupLawsUptoRow : OpenClaim := { program := "ytjnjhfificpbbaa", sum := "ec5e0b6869929a52dad5e9df4368af2f01111c82e0aec23207cd1d48f870b315", func := "commodatum/commodatumlaw02.GroupLaws", spec := "groupLaws", unfollowed := true, recurses := true, plainKeys := false, apart := false, narrowed := true }
def GroupLawsUptoSaid : Prop := groupLawsUptoRow.holds Try.pinned (OpenSpec.upto groupLawsSpec)

/-- 'commodatumlaw02.GroupCounts', WHERE WHAT IT READS IS OF BULK AT MOST 1048576: true; the input reads as it did. -/
def groupCountsUptoRow : OpenClaim := { program := "ytjnjhfificpbbaa", sum := "ec5e0b6869929a52dad5e9df4368af2f01111c82e0aec23207cd1d48f870b315", func := "commodatum/commodatumlaw02.GroupCounts", spec := "groupCounts", unfollowed := true, recurses := true, plainKeys := false, apart := false, narrowed := true }
def GroupCountsUptoSaid : Prop := groupCountsUptoRow.holds Try.pinned (OpenSpec.upto groupCountsSpec)

/-- 'commodatumlaw02.GroupLarge', WHERE WHAT IT READS IS OF BULK AT MOST 1048576: true; the input reads as it did. -/
def groupLargeUptoRow : OpenClaim := { program := "ytjnjhfificpbbaa", sum := "ec5e0b6869929a52dad5e9df4368af2f01111c82e0aec23207cd1d48f870b315", func := "commodatum/commodatumlaw02.GroupLarge", spec := "groupLarge", unfollowed := true, recurses := true, plainKeys := false, apart := false, narrowed := true }
def GroupLargeUptoSaid : Prop := groupLargeUptoRow.holds Try.pinned (OpenSpec.upto groupLargeSpec)

/-- 'commodatumlaw02.GroupOwn', WHERE WHAT IT READS IS OF BULK AT MOST 1048576: true; the input reads as it did. -/
def groupOwnUptoRow : OpenClaim := { program := "ytjnjhfificpbbaa", sum := "ec5e0b6869929a52dad5e9df4368af2f01111c82e0aec23207cd1d48f870b315", func := "commodatum/commodatumlaw02.GroupOwn", spec := "groupOwn", unfollowed := true, recurses := true, plainKeys := false, apart := false, narrowed := true }
def GroupOwnUptoSaid : Prop := groupOwnUptoRow.holds Try.pinned (OpenSpec.upto groupOwnSpec)

end Rows
end Go.Proofs.Ytjnjhfificpbbaa
