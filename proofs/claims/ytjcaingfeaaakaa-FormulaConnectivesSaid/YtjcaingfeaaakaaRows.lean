/-
  NARROWER THAN 'FOR EVERY INPUT', by the rows' own cells (each row's printed sentence says how): FormulaMatchesReference: loops · FormulaConnectives: loops · FormulaExpands: loops · FormulaMatters: loops · FormulaSizes: loops · FormulaParts: loops.
  DERIVED. THE GIVEN ROWS OF THIS SEAT. 7 by the template 'for every input the law returns true; each argument reads behind the call as it read before'; 0 by the template 'total and deterministic' (their statements: YtjcaingfeaaakaaTotals.lean).
  GIVEN WITH THE SEED: the statements are not yours to turn. If you find one false, say at which input.
  Laid BY PROGRAM, IN A SANDBOX (cutbox-rows.mjs): the forced cells as the released guide's own fill.sh prints them over the translation 179ada96d670c2ae… (all of the seat's roots in one cut). By AI agents, Wed Nov 11 2026. No macro, syntax, notation, axiom, sorry.
-/
import Derived.Test.YtjcaingfeaaakaaChecked
import GoSem.Claim
import GoSem.ClaimJoined
import GoSem.ClaimMapViews
import Derived.JoinedTies
import Derived.KernelRfl
namespace Go.Proofs.Ytjcaingfeaaakaa
/- THE CELL 'sum', in the pinned program and in every row, IS THE sha256 OF THE DUMP (.gsa) THAT YtjcaingfeaaakaaProg.lean LOADS. Nothing in Lean hashes anything: it is a label: what it is worth is what the hold of that sum in a sandbox is worth. -/
noncomputable def Try.pinned : Pinned := { name := "ytjcaingfeaaakaa", sum := "179ada96d670c2aef5205a8669636498474c77fd459ee6404dd409ffc2106a3f", checked := Try.checked }
namespace Rows
def none {H : Type} : Left H := { results := [], args := [] }

/-- 'pandectlaw07.FormulaMatchesReference': WHATEVER THE INPUT: true; the input reads as it did. -/
def formulaMatchesReferenceSpec : ChangeSpec := { name := "formulaMatchesReference", fn := fun _ => fun
  | [d1, d2, d3, d4, d5, d6] => { results := [.lit (.bool true)], args := [d1, d2, d3, d4, d5, d6] }
  | _ => none }
def formulaMatchesReferenceRow : OpenClaim := { program := "ytjcaingfeaaakaa", sum := "179ada96d670c2aef5205a8669636498474c77fd459ee6404dd409ffc2106a3f", func := "pandect/pandectlaw07.FormulaMatchesReference", spec := "formulaMatchesReference", unfollowed := true, recurses := true, loops := true, apart := false }
def FormulaMatchesReferenceSaid : Prop := formulaMatchesReferenceRow.holds Try.pinned (OpenSpec.ofChange formulaMatchesReferenceSpec)

/-- ITS FALSE NEIGHBOUR: 'it returns false'. Refute it at one input. -/
def formulaMatchesReferenceWrong : ChangeSpec := { name := "formulaMatchesReference", fn := fun _ => fun
  | [d1, d2, d3, d4, d5, d6] => { results := [.lit (.bool false)], args := [d1, d2, d3, d4, d5, d6] }
  | _ => none }
def FormulaMatchesReferenceWrongFalsely : Prop := formulaMatchesReferenceRow.holds Try.pinned (OpenSpec.ofChange formulaMatchesReferenceWrong)

/-- 'pandectlaw07.FormulaConnectives': WHATEVER THE INPUT: true; the input reads as it did. -/
def formulaConnectivesSpec : ChangeSpec := { name := "formulaConnectives", fn := fun _ => fun
  | [d1, d2, d3, d4, d5] => { results := [.lit (.bool true)], args := [d1, d2, d3, d4, d5] }
  | _ => none }
def formulaConnectivesRow : OpenClaim := { program := "ytjcaingfeaaakaa", sum := "179ada96d670c2aef5205a8669636498474c77fd459ee6404dd409ffc2106a3f", func := "pandect/pandectlaw07.FormulaConnectives", spec := "formulaConnectives", unfollowed := true, recurses := true, loops := true, apart := false }
def FormulaConnectivesSaid : Prop := formulaConnectivesRow.holds Try.pinned (OpenSpec.ofChange formulaConnectivesSpec)

/-- ITS FALSE NEIGHBOUR: 'it returns false'. Refute it at one input. -/
def formulaConnectivesWrong : ChangeSpec := { name := "formulaConnectives", fn := fun _ => fun
  | [d1, d2, d3, d4, d5] => { results := [.lit (.bool false)], args := [d1, d2, d3, d4, d5] }
  | _ => none }
def FormulaConnectivesWrongFalsely : Prop := formulaConnectivesRow.holds Try.pinned (OpenSpec.ofChange formulaConnectivesWrong)

/-- 'pandectlaw07.FormulaTests': WHATEVER THE INPUT: true; the input reads as it did. -/
def formulaTestsSpec : ChangeSpec := { name := "formulaTests", fn := fun _ => fun
  | [d1, d2, d3, d4] => { results := [.lit (.bool true)], args := [d1, d2, d3, d4] }
  | _ => none }
def formulaTestsRow : OpenClaim := { program := "ytjcaingfeaaakaa", sum := "179ada96d670c2aef5205a8669636498474c77fd459ee6404dd409ffc2106a3f", func := "pandect/pandectlaw07.FormulaTests", spec := "formulaTests", unfollowed := true, recurses := true, apart := false }
def FormulaTestsSaid : Prop := formulaTestsRow.holds Try.pinned (OpenSpec.ofChange formulaTestsSpec)

/-- ITS FALSE NEIGHBOUR: 'it returns false'. Refute it at one input. -/
def formulaTestsWrong : ChangeSpec := { name := "formulaTests", fn := fun _ => fun
  | [d1, d2, d3, d4] => { results := [.lit (.bool false)], args := [d1, d2, d3, d4] }
  | _ => none }
def FormulaTestsWrongFalsely : Prop := formulaTestsRow.holds Try.pinned (OpenSpec.ofChange formulaTestsWrong)

/-- 'pandectlaw07.FormulaExpands': WHATEVER THE INPUT: true; the input reads as it did. -/
def formulaExpandsSpec : ChangeSpec := { name := "formulaExpands", fn := fun _ => fun
  | [d1, d2, d3, d4, d5, d6] => { results := [.lit (.bool true)], args := [d1, d2, d3, d4, d5, d6] }
  | _ => none }
def formulaExpandsRow : OpenClaim := { program := "ytjcaingfeaaakaa", sum := "179ada96d670c2aef5205a8669636498474c77fd459ee6404dd409ffc2106a3f", func := "pandect/pandectlaw07.FormulaExpands", spec := "formulaExpands", unfollowed := true, recurses := true, loops := true, apart := false }
def FormulaExpandsSaid : Prop := formulaExpandsRow.holds Try.pinned (OpenSpec.ofChange formulaExpandsSpec)

/-- ITS FALSE NEIGHBOUR: 'it returns false'. Refute it at one input. -/
def formulaExpandsWrong : ChangeSpec := { name := "formulaExpands", fn := fun _ => fun
  | [d1, d2, d3, d4, d5, d6] => { results := [.lit (.bool false)], args := [d1, d2, d3, d4, d5, d6] }
  | _ => none }
def FormulaExpandsWrongFalsely : Prop := formulaExpandsRow.holds Try.pinned (OpenSpec.ofChange formulaExpandsWrong)

/-- 'pandectlaw07.FormulaMatters': WHATEVER THE INPUT: true; the input reads as it did. -/
def formulaMattersSpec : ChangeSpec := { name := "formulaMatters", fn := fun _ => fun
  | [d1, d2, d3, d4, d5, d6] => { results := [.lit (.bool true)], args := [d1, d2, d3, d4, d5, d6] }
  | _ => none }
def formulaMattersRow : OpenClaim := { program := "ytjcaingfeaaakaa", sum := "179ada96d670c2aef5205a8669636498474c77fd459ee6404dd409ffc2106a3f", func := "pandect/pandectlaw07.FormulaMatters", spec := "formulaMatters", unfollowed := true, recurses := true, loops := true, apart := false }
def FormulaMattersSaid : Prop := formulaMattersRow.holds Try.pinned (OpenSpec.ofChange formulaMattersSpec)

/-- ITS FALSE NEIGHBOUR: 'it returns false'. Refute it at one input. -/
def formulaMattersWrong : ChangeSpec := { name := "formulaMatters", fn := fun _ => fun
  | [d1, d2, d3, d4, d5, d6] => { results := [.lit (.bool false)], args := [d1, d2, d3, d4, d5, d6] }
  | _ => none }
def FormulaMattersWrongFalsely : Prop := formulaMattersRow.holds Try.pinned (OpenSpec.ofChange formulaMattersWrong)

/-- 'pandectlaw07.FormulaSizes': WHATEVER THE INPUT: true; the input reads as it did. -/
def formulaSizesSpec : ChangeSpec := { name := "formulaSizes", fn := fun _ => fun
  | [d1, d2, d3] => { results := [.lit (.bool true)], args := [d1, d2, d3] }
  | _ => none }
def formulaSizesRow : OpenClaim := { program := "ytjcaingfeaaakaa", sum := "179ada96d670c2aef5205a8669636498474c77fd459ee6404dd409ffc2106a3f", func := "pandect/pandectlaw07.FormulaSizes", spec := "formulaSizes", unfollowed := true, recurses := true, loops := true, apart := false }
def FormulaSizesSaid : Prop := formulaSizesRow.holds Try.pinned (OpenSpec.ofChange formulaSizesSpec)

/-- ITS FALSE NEIGHBOUR: 'it returns false'. Refute it at one input. -/
def formulaSizesWrong : ChangeSpec := { name := "formulaSizes", fn := fun _ => fun
  | [d1, d2, d3] => { results := [.lit (.bool false)], args := [d1, d2, d3] }
  | _ => none }
def FormulaSizesWrongFalsely : Prop := formulaSizesRow.holds Try.pinned (OpenSpec.ofChange formulaSizesWrong)

/-- 'pandectlaw07.FormulaParts': WHATEVER THE INPUT: true; the input reads as it did. -/
def formulaPartsSpec : ChangeSpec := { name := "formulaParts", fn := fun _ => fun
  | [d1, d2, d3, d4] => { results := [.lit (.bool true)], args := [d1, d2, d3, d4] }
  | _ => none }
def formulaPartsRow : OpenClaim := { program := "ytjcaingfeaaakaa", sum := "179ada96d670c2aef5205a8669636498474c77fd459ee6404dd409ffc2106a3f", func := "pandect/pandectlaw07.FormulaParts", spec := "formulaParts", unfollowed := true, recurses := true, loops := true, apart := false }
def FormulaPartsSaid : Prop := formulaPartsRow.holds Try.pinned (OpenSpec.ofChange formulaPartsSpec)

/-- ITS FALSE NEIGHBOUR: 'it returns false'. Refute it at one input. -/
def formulaPartsWrong : ChangeSpec := { name := "formulaParts", fn := fun _ => fun
  | [d1, d2, d3, d4] => { results := [.lit (.bool false)], args := [d1, d2, d3, d4] }
  | _ => none }
def FormulaPartsWrongFalsely : Prop := formulaPartsRow.holds Try.pinned (OpenSpec.ofChange formulaPartsWrong)

/- THE SECOND FORM. 'bulk': how many values and letters a reading holds, each counted each time it is reached (what is shared counts as often as it is met; a slice's spare places count too). A statement '..UptoSaid' is the law's where the arguments, and the package variables that the reading takes, are together of bulk at most 1048576: NARROWER than '..Said'. Prove '..Said' where nothing that the law and all that it calls make is longer than what came in: it says more and counts as full. Else prove '..UptoSaid'. A law counts once. -/
mutual
def uptoBulk {H : Type} : DataW H → Nat
  | .lit (.string bytes) => bytes.length + 1
  | .lit _ => 1
  | .nil => 1
  | .ptr d => uptoBulk d + 1
  | .slice elems spare => uptoBulkAll elems + uptoBulkAll spare + 1
  | .agg parts => uptoBulkAll parts + 1
  | .iface _ d => uptoBulk d + 1
  | .map entries => uptoBulkEntries entries + 1
  | .held _ => 1
def uptoBulkAll {H : Type} : List (DataW H) → Nat
  | [] => 0
  | d :: r => uptoBulk d + uptoBulkAll r
def uptoBulkEntries {H : Type} : List (Lit × DataW H) → Nat
  | [] => 0
  | x :: r => uptoBulkEntry x + uptoBulkEntries r
def uptoBulkEntry {H : Type} : Lit × DataW H → Nat
  | (.string bytes, d) => bytes.length + uptoBulk d + 1
  | (_, d) => uptoBulk d + 1
 end
def uptoSmall : (H : Type) → List (DataW H) → Bool := fun _ ds => decide (uptoBulkAll ds ≤ 1048576)
def OpenSpec.upto (s : _root_.Go.ChangeSpec) : _root_.Go.OpenSpec := { _root_.Go.OpenSpec.ofChange s with cond := some uptoSmall }

/-- 'pandectlaw07.FormulaMatchesReference', WHERE WHAT IT READS IS OF BULK AT MOST 1048576: true; the input reads as it did. -/
def formulaMatchesReferenceUptoRow : OpenClaim := { program := "ytjcaingfeaaakaa", sum := "179ada96d670c2aef5205a8669636498474c77fd459ee6404dd409ffc2106a3f", func := "pandect/pandectlaw07.FormulaMatchesReference", spec := "formulaMatchesReference", unfollowed := true, recurses := true, loops := true, apart := false, narrowed := true }
def FormulaMatchesReferenceUptoSaid : Prop := formulaMatchesReferenceUptoRow.holds Try.pinned (OpenSpec.upto formulaMatchesReferenceSpec)

/-- 'pandectlaw07.FormulaConnectives', WHERE WHAT IT READS IS OF BULK AT MOST 1048576: true; the input reads as it did. -/
def formulaConnectivesUptoRow : OpenClaim := { program := "ytjcaingfeaaakaa", sum := "179ada96d670c2aef5205a8669636498474c77fd459ee6404dd409ffc2106a3f", func := "pandect/pandectlaw07.FormulaConnectives", spec := "formulaConnectives", unfollowed := true, recurses := true, loops := true, apart := false, narrowed := true }
def FormulaConnectivesUptoSaid : Prop := formulaConnectivesUptoRow.holds Try.pinned (OpenSpec.upto formulaConnectivesSpec)

/-- 'pandectlaw07.FormulaTests', WHERE WHAT IT READS IS OF BULK AT MOST 1048576: true; the input reads as it did. -/
def formulaTestsUptoRow : OpenClaim := { program := "ytjcaingfeaaakaa", sum := "179ada96d670c2aef5205a8669636498474c77fd459ee6404dd409ffc2106a3f", func := "pandect/pandectlaw07.FormulaTests", spec := "formulaTests", unfollowed := true, recurses := true, apart := false, narrowed := true }
def FormulaTestsUptoSaid : Prop := formulaTestsUptoRow.holds Try.pinned (OpenSpec.upto formulaTestsSpec)

/-- 'pandectlaw07.FormulaExpands', WHERE WHAT IT READS IS OF BULK AT MOST 1048576: true; the input reads as it did. -/
def formulaExpandsUptoRow : OpenClaim := { program := "ytjcaingfeaaakaa", sum := "179ada96d670c2aef5205a8669636498474c77fd459ee6404dd409ffc2106a3f", func := "pandect/pandectlaw07.FormulaExpands", spec := "formulaExpands", unfollowed := true, recurses := true, loops := true, apart := false, narrowed := true }
def FormulaExpandsUptoSaid : Prop := formulaExpandsUptoRow.holds Try.pinned (OpenSpec.upto formulaExpandsSpec)

/-- 'pandectlaw07.FormulaMatters', WHERE WHAT IT READS IS OF BULK AT MOST 1048576: true; the input reads as it did. -/
def formulaMattersUptoRow : OpenClaim := { program := "ytjcaingfeaaakaa", sum := "179ada96d670c2aef5205a8669636498474c77fd459ee6404dd409ffc2106a3f", func := "pandect/pandectlaw07.FormulaMatters", spec := "formulaMatters", unfollowed := true, recurses := true, loops := true, apart := false, narrowed := true }
def FormulaMattersUptoSaid : Prop := formulaMattersUptoRow.holds Try.pinned (OpenSpec.upto formulaMattersSpec)

/-- 'pandectlaw07.FormulaSizes', WHERE WHAT IT READS IS OF BULK AT MOST 1048576: true; the input reads as it did. -/
def formulaSizesUptoRow : OpenClaim := { program := "ytjcaingfeaaakaa", sum := "179ada96d670c2aef5205a8669636498474c77fd459ee6404dd409ffc2106a3f", func := "pandect/pandectlaw07.FormulaSizes", spec := "formulaSizes", unfollowed := true, recurses := true, loops := true, apart := false, narrowed := true }
def FormulaSizesUptoSaid : Prop := formulaSizesUptoRow.holds Try.pinned (OpenSpec.upto formulaSizesSpec)

/-- 'pandectlaw07.FormulaParts', WHERE WHAT IT READS IS OF BULK AT MOST 1048576: true; the input reads as it did. -/
def formulaPartsUptoRow : OpenClaim := { program := "ytjcaingfeaaakaa", sum := "179ada96d670c2aef5205a8669636498474c77fd459ee6404dd409ffc2106a3f", func := "pandect/pandectlaw07.FormulaParts", spec := "formulaParts", unfollowed := true, recurses := true, loops := true, apart := false, narrowed := true }
def FormulaPartsUptoSaid : Prop := formulaPartsUptoRow.holds Try.pinned (OpenSpec.upto formulaPartsSpec)

end Rows
end Go.Proofs.Ytjcaingfeaaakaa
