/-
  NARROWER THAN 'FOR EVERY INPUT', by the rows' own cells (each row's printed sentence says how): FieldValid: laid · FieldMakes: laid · FieldPowers: laid · FieldRoots: laid · FieldLaws: laid · FieldFermat: laid · FieldSums: laid.
  DERIVED. THE GIVEN ROWS OF THIS SEAT. 7 by the template 'for every input the law returns true; each argument reads behind the call as it read before'; 0 by the template 'total and deterministic' (their statements: YtmenkahkdcjkiaaDoorTotals.lean).
  GIVEN WITH THE SEED: the statements are not yours to turn. If you find one false, say at which input.
  Laid BY PROGRAM, IN A SANDBOX (cutbox-rows.mjs): the forced cells as the released guide's own fill.sh prints them over the translation 3f60a83bcabc2133… (all of the seat's roots in one cut). By AI agents, Wed Nov 11 2026. No macro, syntax, notation, axiom, sorry.
-/
import Derived.Test.YtmenkahkdcjkiaaDoorChecked
import GoSem.Claim
import GoSem.ClaimJoined
import GoSem.ClaimMapViews
import Derived.JoinedTies
import Derived.KernelRfl
namespace Go.Proofs.YtmenkahkdcjkiaaDoor
/- THE CELL 'sum', in the pinned program and in every row, IS THE sha256 OF THE DUMP (.gsa) THAT YtmenkahkdcjkiaaDoorProg.lean LOADS. Nothing in Lean hashes anything: it is a label: what it is worth is what the hold of that sum in a sandbox is worth. -/
noncomputable def Tryd.pinned : Pinned := { name := "ytmenkahkdcjkiaadoor", sum := "3f60a83bcabc213383560cb9de9963f5d52948a433ff7cdb14e430e229e2bb90", checked := Tryd.checked }
namespace Rows
def none {H : Type} : Left H := { results := [], args := [] }

/- WHAT THE LISTED PACKAGE-LEVEL VARIABLES READ AS WHEN THE CALL BEGINS. Each datum BY PROGRAM (the guide's laid-datum.mjs) off the statement by which the dump's own 'gosem.cut.vars' lays the variable. In a bare row this is a premise. The card (YtmenkahkdcjkiaaDoorCards.lean) ties it to the program's text. -/
def laid_commodatum_field_moduli {H : Type} : DataW H := .agg [.lit (.int .i64 0), .lit (.int .i64 0), .lit (.int .i64 7), .lit (.int .i64 11), .lit (.int .i64 19), .lit (.int .i64 37), .lit (.int .i64 67), .lit (.int .i64 131), .lit (.int .i64 283), .lit (.int .i64 515), .lit (.int .i64 1033), .lit (.int .i64 2053), .lit (.int .i64 4105), .lit (.int .i64 8219), .lit (.int .i64 16417), .lit (.int .i64 32771), .lit (.int .i64 65579)]
def laid_commodatum_field_smallPrimes {H : Type} : DataW H := .slice [.lit (.int .u32 2), .lit (.int .u32 3), .lit (.int .u32 5), .lit (.int .u32 7), .lit (.int .u32 11), .lit (.int .u32 13), .lit (.int .u32 17), .lit (.int .u32 19), .lit (.int .u32 23), .lit (.int .u32 29), .lit (.int .u32 31), .lit (.int .u32 37), .lit (.int .u32 41), .lit (.int .u32 43), .lit (.int .u32 47), .lit (.int .u32 53), .lit (.int .u32 59), .lit (.int .u32 61), .lit (.int .u32 67), .lit (.int .u32 71), .lit (.int .u32 73), .lit (.int .u32 79), .lit (.int .u32 83), .lit (.int .u32 89), .lit (.int .u32 97), .lit (.int .u32 101), .lit (.int .u32 103), .lit (.int .u32 107), .lit (.int .u32 109), .lit (.int .u32 113), .lit (.int .u32 127), .lit (.int .u32 131), .lit (.int .u32 137), .lit (.int .u32 139), .lit (.int .u32 149), .lit (.int .u32 151), .lit (.int .u32 157), .lit (.int .u32 163), .lit (.int .u32 167), .lit (.int .u32 173), .lit (.int .u32 179), .lit (.int .u32 181), .lit (.int .u32 191), .lit (.int .u32 193), .lit (.int .u32 197), .lit (.int .u32 199), .lit (.int .u32 211), .lit (.int .u32 223), .lit (.int .u32 227), .lit (.int .u32 229), .lit (.int .u32 233), .lit (.int .u32 239), .lit (.int .u32 241), .lit (.int .u32 251)] []

/-- 'commodatumlaw03.FieldValid': WHATEVER THE INPUT: true; the input reads as it did. -/
def fieldValidSpec : ChangeSpec := { name := "fieldValid", fn := fun _ => fun
  | [d] => { results := [.lit (.bool true)], args := [d] }
  | _ => none }
def fieldValidRow : OpenClaim := { program := "ytmenkahkdcjkiaadoor", sum := "3f60a83bcabc213383560cb9de9963f5d52948a433ff7cdb14e430e229e2bb90", func := "commodatum/commodatumlaw03.FieldValid", spec := "fieldValid", unfollowed := true, recurses := true, named := ["commodatum/field.moduli", "commodatum/field.smallPrimes"], apart := false, laid := [("commodatum/field.moduli", laid_commodatum_field_moduli), ("commodatum/field.smallPrimes", laid_commodatum_field_smallPrimes)] }
def FieldValidSaid : Prop := fieldValidRow.holds Tryd.pinned (OpenSpec.ofChange fieldValidSpec)

/-- ITS FALSE NEIGHBOUR: 'it returns false'. Refute it at one input. -/
def fieldValidWrong : ChangeSpec := { name := "fieldValid", fn := fun _ => fun
  | [d] => { results := [.lit (.bool false)], args := [d] }
  | _ => none }
def FieldValidWrongFalsely : Prop := fieldValidRow.holds Tryd.pinned (OpenSpec.ofChange fieldValidWrong)

/-- 'commodatumlaw03.FieldMakes': WHATEVER THE INPUT: true; the input reads as it did. -/
def fieldMakesSpec : ChangeSpec := { name := "fieldMakes", fn := fun _ => fun
  | [d1, d2, d3] => { results := [.lit (.bool true)], args := [d1, d2, d3] }
  | _ => none }
def fieldMakesRow : OpenClaim := { program := "ytmenkahkdcjkiaadoor", sum := "3f60a83bcabc213383560cb9de9963f5d52948a433ff7cdb14e430e229e2bb90", func := "commodatum/commodatumlaw03.FieldMakes", spec := "fieldMakes", unfollowed := true, recurses := true, named := ["commodatum/field.smallPrimes", "commodatum/field.moduli"], apart := false, laid := [("commodatum/field.moduli", laid_commodatum_field_moduli), ("commodatum/field.smallPrimes", laid_commodatum_field_smallPrimes)] }
def FieldMakesSaid : Prop := fieldMakesRow.holds Tryd.pinned (OpenSpec.ofChange fieldMakesSpec)

/-- ITS FALSE NEIGHBOUR: 'it returns false'. Refute it at one input. -/
def fieldMakesWrong : ChangeSpec := { name := "fieldMakes", fn := fun _ => fun
  | [d1, d2, d3] => { results := [.lit (.bool false)], args := [d1, d2, d3] }
  | _ => none }
def FieldMakesWrongFalsely : Prop := fieldMakesRow.holds Tryd.pinned (OpenSpec.ofChange fieldMakesWrong)

/-- 'commodatumlaw03.FieldPowers': WHATEVER THE INPUT: true; the input reads as it did. -/
def fieldPowersSpec : ChangeSpec := { name := "fieldPowers", fn := fun _ => fun
  | [d1, d2, d3] => { results := [.lit (.bool true)], args := [d1, d2, d3] }
  | _ => none }
def fieldPowersRow : OpenClaim := { program := "ytmenkahkdcjkiaadoor", sum := "3f60a83bcabc213383560cb9de9963f5d52948a433ff7cdb14e430e229e2bb90", func := "commodatum/commodatumlaw03.FieldPowers", spec := "fieldPowers", unfollowed := true, recurses := true, named := ["commodatum/field.smallPrimes", "commodatum/field.moduli"], apart := false, laid := [("commodatum/field.moduli", laid_commodatum_field_moduli), ("commodatum/field.smallPrimes", laid_commodatum_field_smallPrimes)] }
def FieldPowersSaid : Prop := fieldPowersRow.holds Tryd.pinned (OpenSpec.ofChange fieldPowersSpec)

/-- ITS FALSE NEIGHBOUR: 'it returns false'. Refute it at one input. -/
def fieldPowersWrong : ChangeSpec := { name := "fieldPowers", fn := fun _ => fun
  | [d1, d2, d3] => { results := [.lit (.bool false)], args := [d1, d2, d3] }
  | _ => none }
def FieldPowersWrongFalsely : Prop := fieldPowersRow.holds Tryd.pinned (OpenSpec.ofChange fieldPowersWrong)

/-- 'commodatumlaw03.FieldRoots': WHATEVER THE INPUT: true; the input reads as it did. -/
def fieldRootsSpec : ChangeSpec := { name := "fieldRoots", fn := fun _ => fun
  | [d1, d2, d3] => { results := [.lit (.bool true)], args := [d1, d2, d3] }
  | _ => none }
def fieldRootsRow : OpenClaim := { program := "ytmenkahkdcjkiaadoor", sum := "3f60a83bcabc213383560cb9de9963f5d52948a433ff7cdb14e430e229e2bb90", func := "commodatum/commodatumlaw03.FieldRoots", spec := "fieldRoots", unfollowed := true, recurses := true, named := ["commodatum/field.moduli", "commodatum/field.smallPrimes"], apart := false, laid := [("commodatum/field.moduli", laid_commodatum_field_moduli), ("commodatum/field.smallPrimes", laid_commodatum_field_smallPrimes)] }
def FieldRootsSaid : Prop := fieldRootsRow.holds Tryd.pinned (OpenSpec.ofChange fieldRootsSpec)

/-- ITS FALSE NEIGHBOUR: 'it returns false'. Refute it at one input. -/
def fieldRootsWrong : ChangeSpec := { name := "fieldRoots", fn := fun _ => fun
  | [d1, d2, d3] => { results := [.lit (.bool false)], args := [d1, d2, d3] }
  | _ => none }
def FieldRootsWrongFalsely : Prop := fieldRootsRow.holds Tryd.pinned (OpenSpec.ofChange fieldRootsWrong)

/-- 'commodatumlaw03.FieldLaws': WHATEVER THE INPUT: true; the input reads as it did. -/
def fieldLawsSpec : ChangeSpec := { name := "fieldLaws", fn := fun _ => fun
  | [d1, d2] => { results := [.lit (.bool true)], args := [d1, d2] }
  | _ => none }
def fieldLawsRow : OpenClaim := { program := "ytmenkahkdcjkiaadoor", sum := "3f60a83bcabc213383560cb9de9963f5d52948a433ff7cdb14e430e229e2bb90", func := "commodatum/commodatumlaw03.FieldLaws", spec := "fieldLaws", unfollowed := true, recurses := true, named := ["commodatum/field.smallPrimes", "commodatum/field.moduli"], apart := false, laid := [("commodatum/field.moduli", laid_commodatum_field_moduli), ("commodatum/field.smallPrimes", laid_commodatum_field_smallPrimes)] }
def FieldLawsSaid : Prop := fieldLawsRow.holds Tryd.pinned (OpenSpec.ofChange fieldLawsSpec)

/-- ITS FALSE NEIGHBOUR: 'it returns false'. Refute it at one input. -/
def fieldLawsWrong : ChangeSpec := { name := "fieldLaws", fn := fun _ => fun
  | [d1, d2] => { results := [.lit (.bool false)], args := [d1, d2] }
  | _ => none }
def FieldLawsWrongFalsely : Prop := fieldLawsRow.holds Tryd.pinned (OpenSpec.ofChange fieldLawsWrong)

/-- 'commodatumlaw03.FieldFermat': WHATEVER THE INPUT: true; the input reads as it did. -/
def fieldFermatSpec : ChangeSpec := { name := "fieldFermat", fn := fun _ => fun
  | [d1, d2, d3] => { results := [.lit (.bool true)], args := [d1, d2, d3] }
  | _ => none }
def fieldFermatRow : OpenClaim := { program := "ytmenkahkdcjkiaadoor", sum := "3f60a83bcabc213383560cb9de9963f5d52948a433ff7cdb14e430e229e2bb90", func := "commodatum/commodatumlaw03.FieldFermat", spec := "fieldFermat", unfollowed := true, recurses := true, named := ["commodatum/field.smallPrimes", "commodatum/field.moduli"], apart := false, laid := [("commodatum/field.moduli", laid_commodatum_field_moduli), ("commodatum/field.smallPrimes", laid_commodatum_field_smallPrimes)] }
def FieldFermatSaid : Prop := fieldFermatRow.holds Tryd.pinned (OpenSpec.ofChange fieldFermatSpec)

/-- ITS FALSE NEIGHBOUR: 'it returns false'. Refute it at one input. -/
def fieldFermatWrong : ChangeSpec := { name := "fieldFermat", fn := fun _ => fun
  | [d1, d2, d3] => { results := [.lit (.bool false)], args := [d1, d2, d3] }
  | _ => none }
def FieldFermatWrongFalsely : Prop := fieldFermatRow.holds Tryd.pinned (OpenSpec.ofChange fieldFermatWrong)

/-- 'commodatumlaw03.FieldSums': WHATEVER THE INPUT: true; the input reads as it did. -/
def fieldSumsSpec : ChangeSpec := { name := "fieldSums", fn := fun _ => fun
  | [d1, d2, d3, d4] => { results := [.lit (.bool true)], args := [d1, d2, d3, d4] }
  | _ => none }
def fieldSumsRow : OpenClaim := { program := "ytmenkahkdcjkiaadoor", sum := "3f60a83bcabc213383560cb9de9963f5d52948a433ff7cdb14e430e229e2bb90", func := "commodatum/commodatumlaw03.FieldSums", spec := "fieldSums", unfollowed := true, recurses := true, named := ["commodatum/field.smallPrimes", "commodatum/field.moduli"], apart := false, laid := [("commodatum/field.moduli", laid_commodatum_field_moduli), ("commodatum/field.smallPrimes", laid_commodatum_field_smallPrimes)] }
def FieldSumsSaid : Prop := fieldSumsRow.holds Tryd.pinned (OpenSpec.ofChange fieldSumsSpec)

/-- ITS FALSE NEIGHBOUR: 'it returns false'. Refute it at one input. -/
def fieldSumsWrong : ChangeSpec := { name := "fieldSums", fn := fun _ => fun
  | [d1, d2, d3, d4] => { results := [.lit (.bool false)], args := [d1, d2, d3, d4] }
  | _ => none }
def FieldSumsWrongFalsely : Prop := fieldSumsRow.holds Tryd.pinned (OpenSpec.ofChange fieldSumsWrong)

/- THE SECOND FORM. 'bulk': how many values and letters a reading holds, each counted each time it is reached (what is shared counts as often as it is met; a slice's spare places count too). A statement '..UptoSaid' is the law's where the arguments, and the package variables that the reading takes, are together of bulk at most 1048576: NARROWER than '..Said'. Prove '..Said' where nothing that the law and all that it calls make is longer than what came in: it says more and counts as full. Else prove '..UptoSaid'. A law counts once. -/
mutual
def uptoBulk {H : Type} : DataW H → Nat
  | .lit (.string bytes) => bytes.length + 1
  | .lit _ => 1
  | .nil => 1
  | .ptr d => uptoBulk d + 1
  | .slice elems spare => uptoBulkAll elems + uptoBulkAll spare + 1
  | .agg parts => uptoBulkAll parts + 1
  | .iface _ d => uptoBulk d + 1
  | .map entries => uptoBulkEntries entries + 1
  | .held _ => 1
def uptoBulkAll {H : Type} : List (DataW H) → Nat
  | [] => 0
  | d :: r => uptoBulk d + uptoBulkAll r
def uptoBulkEntries {H : Type} : List (Lit × DataW H) → Nat
  | [] => 0
  | x :: r => uptoBulkEntry x + uptoBulkEntries r
def uptoBulkEntry {H : Type} : Lit × DataW H → Nat
  | (.string bytes, d) => bytes.length + uptoBulk d + 1
  | (_, d) => uptoBulk d + 1
 end
def uptoSmall : (H : Type) → List (DataW H) → Bool := fun _ ds => decide (uptoBulkAll ds ≤ 1048576)
def OpenSpec.upto (s : _root_.Go.ChangeSpec) : _root_.Go.OpenSpec := { _root_.Go.OpenSpec.ofChange s with cond := some uptoSmall }

/-- 'commodatumlaw03.FieldValid', WHERE WHAT IT READS IS OF BULK AT MOST 1048576: true; the input reads as it did. -/
def fieldValidUptoRow : OpenClaim := { program := "ytmenkahkdcjkiaadoor", sum := "3f60a83bcabc213383560cb9de9963f5d52948a433ff7cdb14e430e229e2bb90", func := "commodatum/commodatumlaw03.FieldValid", spec := "fieldValid", unfollowed := true, recurses := true, named := ["commodatum/field.moduli", "commodatum/field.smallPrimes"], apart := false, laid := [("commodatum/field.moduli", laid_commodatum_field_moduli), ("commodatum/field.smallPrimes", laid_commodatum_field_smallPrimes)], narrowed := true }
def FieldValidUptoSaid : Prop := fieldValidUptoRow.holds Tryd.pinned (OpenSpec.upto fieldValidSpec)

/-- 'commodatumlaw03.FieldMakes', WHERE WHAT IT READS IS OF BULK AT MOST 1048576: true; the input reads as it did. -/
def fieldMakesUptoRow : OpenClaim := { program := "ytmenkahkdcjkiaadoor", sum := "3f60a83bcabc213383560cb9de9963f5d52948a433ff7cdb14e430e229e2bb90", func := "commodatum/commodatumlaw03.FieldMakes", spec := "fieldMakes", unfollowed := true, recurses := true, named := ["commodatum/field.smallPrimes", "commodatum/field.moduli"], apart := false, laid := [("commodatum/field.moduli", laid_commodatum_field_moduli), ("commodatum/field.smallPrimes", laid_commodatum_field_smallPrimes)], narrowed := true }
def FieldMakesUptoSaid : Prop := fieldMakesUptoRow.holds Tryd.pinned (OpenSpec.upto fieldMakesSpec)

/-- 'commodatumlaw03.FieldPowers', WHERE WHAT IT READS IS OF BULK AT MOST 1048576: true; the input reads as it did. -/
def fieldPowersUptoRow : OpenClaim := { program := "ytmenkahkdcjkiaadoor", sum := "3f60a83bcabc213383560cb9de9963f5d52948a433ff7cdb14e430e229e2bb90", func := "commodatum/commodatumlaw03.FieldPowers", spec := "fieldPowers", unfollowed := true, recurses := true, named := ["commodatum/field.smallPrimes", "commodatum/field.moduli"], apart := false, laid := [("commodatum/field.moduli", laid_commodatum_field_moduli), ("commodatum/field.smallPrimes", laid_commodatum_field_smallPrimes)], narrowed := true }
def FieldPowersUptoSaid : Prop := fieldPowersUptoRow.holds Tryd.pinned (OpenSpec.upto fieldPowersSpec)

/-- 'commodatumlaw03.FieldRoots', WHERE WHAT IT READS IS OF BULK AT MOST 1048576: true; the input reads as it did. -/
def fieldRootsUptoRow : OpenClaim := { program := "ytmenkahkdcjkiaadoor", sum := "3f60a83bcabc213383560cb9de9963f5d52948a433ff7cdb14e430e229e2bb90", func := "commodatum/commodatumlaw03.FieldRoots", spec := "fieldRoots", unfollowed := true, recurses := true, named := ["commodatum/field.moduli", "commodatum/field.smallPrimes"], apart := false, laid := [("commodatum/field.moduli", laid_commodatum_field_moduli), ("commodatum/field.smallPrimes", laid_commodatum_field_smallPrimes)], narrowed := true }
def FieldRootsUptoSaid : Prop := fieldRootsUptoRow.holds Tryd.pinned (OpenSpec.upto fieldRootsSpec)

/-- 'commodatumlaw03.FieldLaws', WHERE WHAT IT READS IS OF BULK AT MOST 1048576: true; the input reads as it did. -/
def fieldLawsUptoRow : OpenClaim := { program := "ytmenkahkdcjkiaadoor", sum := "3f60a83bcabc213383560cb9de9963f5d52948a433ff7cdb14e430e229e2bb90", func := "commodatum/commodatumlaw03.FieldLaws", spec := "fieldLaws", unfollowed := true, recurses := true, named := ["commodatum/field.smallPrimes", "commodatum/field.moduli"], apart := false, laid := [("commodatum/field.moduli", laid_commodatum_field_moduli), ("commodatum/field.smallPrimes", laid_commodatum_field_smallPrimes)], narrowed := true }
def FieldLawsUptoSaid : Prop := fieldLawsUptoRow.holds Tryd.pinned (OpenSpec.upto fieldLawsSpec)

/-- 'commodatumlaw03.FieldFermat', WHERE WHAT IT READS IS OF BULK AT MOST 1048576: true; the input reads as it did. -/
def fieldFermatUptoRow : OpenClaim := { program := "ytmenkahkdcjkiaadoor", sum := "3f60a83bcabc213383560cb9de9963f5d52948a433ff7cdb14e430e229e2bb90", func := "commodatum/commodatumlaw03.FieldFermat", spec := "fieldFermat", unfollowed := true, recurses := true, named := ["commodatum/field.smallPrimes", "commodatum/field.moduli"], apart := false, laid := [("commodatum/field.moduli", laid_commodatum_field_moduli), ("commodatum/field.smallPrimes", laid_commodatum_field_smallPrimes)], narrowed := true }
def FieldFermatUptoSaid : Prop := fieldFermatUptoRow.holds Tryd.pinned (OpenSpec.upto fieldFermatSpec)

/-- 'commodatumlaw03.FieldSums', WHERE WHAT IT READS IS OF BULK AT MOST 1048576: true; the input reads as it did. -/
def fieldSumsUptoRow : OpenClaim := { program := "ytmenkahkdcjkiaadoor", sum := "3f60a83bcabc213383560cb9de9963f5d52948a433ff7cdb14e430e229e2bb90", func := "commodatum/commodatumlaw03.FieldSums", spec := "fieldSums", unfollowed := true, recurses := true, named := ["commodatum/field.smallPrimes", "commodatum/field.moduli"], apart := false, laid := [("commodatum/field.moduli", laid_commodatum_field_moduli), ("commodatum/field.smallPrimes", laid_commodatum_field_smallPrimes)], narrowed := true }
def FieldSumsUptoSaid : Prop := fieldSumsUptoRow.holds Tryd.pinned (OpenSpec.upto fieldSumsSpec)

end Rows
end Go.Proofs.YtmenkahkdcjkiaaDoor
