/-
  NARROWER THAN 'FOR EVERY INPUT', by the rows' own cells (each row's printed sentence says how): VarsPlays: laid · VarsSets: laid · VarsMarks: laid.
  DERIVED. THE GIVEN ROWS OF THIS SEAT. 3 by the template 'for every input the law returns true; each argument reads behind the call as it read before'; 0 by the template 'total and deterministic' (their statements: YtpagcoiekeijbaaDoorTotals.lean).
  GIVEN WITH THE SEED: the statements are not yours to turn. If you find one false, say at which input.
  Laid BY PROGRAM, IN A SANDBOX (cutbox-rows.mjs): the forced cells as the released guide's own fill.sh prints them over the translation 8c1813db56d9f523… (all of the seat's roots in one cut). By AI agents, Wed Nov 11 2026. No macro, syntax, notation, axiom, sorry.
-/
import Derived.Test.YtpagcoiekeijbaaDoorChecked
import GoSem.Claim
import GoSem.ClaimJoined
import GoSem.ClaimMapViews
import Derived.JoinedTies
import Derived.KernelRfl
namespace Go.Proofs.YtpagcoiekeijbaaDoor
/- THE CELL 'sum', in the pinned program and in every row, IS THE sha256 OF THE DUMP (.gsa) THAT YtpagcoiekeijbaaDoorProg.lean LOADS. Nothing in Lean hashes anything: it is a label: what it is worth is what the hold of that sum in a sandbox is worth. -/
noncomputable def Tryd.pinned : Pinned := { name := "ytpagcoiekeijbaadoor", sum := "8c1813db56d9f52367c732905a6a476e25e92b96e0e2becac90f7130464d4972", checked := Tryd.checked }
namespace Rows
def none {H : Type} : Left H := { results := [], args := [] }

/- WHAT THE LISTED PACKAGE-LEVEL VARIABLES READ AS WHEN THE CALL BEGINS. Each datum BY PROGRAM (the guide's laid-datum.mjs) off the statement by which the dump's own 'gosem.cut.vars' lays the variable. In a bare row this is a premise. The card (YtpagcoiekeijbaaDoorCards.lean) ties it to the program's text. -/
def laid_scullion_word_operators {H : Type} : DataW H := .agg [.lit (.string [58, 45]), .lit (.string [58, 61]), .lit (.string [58, 63]), .lit (.string [58, 43]), .lit (.string [37, 37]), .lit (.string [35, 35]), .lit (.string [45]), .lit (.string [61]), .lit (.string [63]), .lit (.string [43]), .lit (.string [37]), .lit (.string [35])]

/-- 'scullionlaw12.VarsPlays': WHATEVER THE INPUT: true; the input reads as it did. -/
def varsPlaysSpec : ChangeSpec := { name := "varsPlays", fn := fun _ => fun
  | [d] => { results := [.lit (.bool true)], args := [d] }
  | _ => none }
def varsPlaysRow : OpenClaim := { program := "ytpagcoiekeijbaadoor", sum := "8c1813db56d9f52367c732905a6a476e25e92b96e0e2becac90f7130464d4972", func := "scullion/scullionlaw12.VarsPlays", spec := "varsPlays", inPlace := ["internal/bytealg.IndexByteString", "internal/bytealg.IndexString", "internal/bytealg.abigen_runtime_cmpstring"], unfollowed := true, recurses := true, named := ["internal/bytealg.MaxLen", "scullion/word.operators"], apart := false, laid := [("scullion/word.operators", laid_scullion_word_operators)] }
def VarsPlaysSaid : Prop := varsPlaysRow.holds Tryd.pinned (OpenSpec.ofChange varsPlaysSpec)

/-- ITS FALSE NEIGHBOUR: 'it returns false'. Refute it at one input. -/
def varsPlaysWrong : ChangeSpec := { name := "varsPlays", fn := fun _ => fun
  | [d] => { results := [.lit (.bool false)], args := [d] }
  | _ => none }
def VarsPlaysWrongFalsely : Prop := varsPlaysRow.holds Tryd.pinned (OpenSpec.ofChange varsPlaysWrong)

/-- 'scullionlaw12.VarsSets': WHATEVER THE INPUT: true; the input reads as it did. -/
def varsSetsSpec : ChangeSpec := { name := "varsSets", fn := fun _ => fun
  | [d1, d2, d3] => { results := [.lit (.bool true)], args := [d1, d2, d3] }
  | _ => none }
def varsSetsRow : OpenClaim := { program := "ytpagcoiekeijbaadoor", sum := "8c1813db56d9f52367c732905a6a476e25e92b96e0e2becac90f7130464d4972", func := "scullion/scullionlaw12.VarsSets", spec := "varsSets", inPlace := ["internal/bytealg.IndexByteString", "internal/bytealg.IndexString", "internal/bytealg.abigen_runtime_cmpstring"], unfollowed := true, recurses := true, named := ["internal/bytealg.MaxLen", "scullion/word.operators"], apart := false, laid := [("scullion/word.operators", laid_scullion_word_operators)] }
def VarsSetsSaid : Prop := varsSetsRow.holds Tryd.pinned (OpenSpec.ofChange varsSetsSpec)

/-- ITS FALSE NEIGHBOUR: 'it returns false'. Refute it at one input. -/
def varsSetsWrong : ChangeSpec := { name := "varsSets", fn := fun _ => fun
  | [d1, d2, d3] => { results := [.lit (.bool false)], args := [d1, d2, d3] }
  | _ => none }
def VarsSetsWrongFalsely : Prop := varsSetsRow.holds Tryd.pinned (OpenSpec.ofChange varsSetsWrong)

/-- 'scullionlaw12.VarsMarks': WHATEVER THE INPUT: true; the input reads as it did. -/
def varsMarksSpec : ChangeSpec := { name := "varsMarks", fn := fun _ => fun
  | [d1, d2, d3, d4, d5] => { results := [.lit (.bool true)], args := [d1, d2, d3, d4, d5] }
  | _ => none }
def varsMarksRow : OpenClaim := { program := "ytpagcoiekeijbaadoor", sum := "8c1813db56d9f52367c732905a6a476e25e92b96e0e2becac90f7130464d4972", func := "scullion/scullionlaw12.VarsMarks", spec := "varsMarks", inPlace := ["internal/bytealg.IndexByteString", "internal/bytealg.IndexString", "internal/bytealg.abigen_runtime_cmpstring"], unfollowed := true, recurses := true, named := ["internal/bytealg.MaxLen", "scullion/word.operators"], apart := false, laid := [("scullion/word.operators", laid_scullion_word_operators)] }
def VarsMarksSaid : Prop := varsMarksRow.holds Tryd.pinned (OpenSpec.ofChange varsMarksSpec)

/-- ITS FALSE NEIGHBOUR: 'it returns false'. Refute it at one input. -/
def varsMarksWrong : ChangeSpec := { name := "varsMarks", fn := fun _ => fun
  | [d1, d2, d3, d4, d5] => { results := [.lit (.bool false)], args := [d1, d2, d3, d4, d5] }
  | _ => none }
def VarsMarksWrongFalsely : Prop := varsMarksRow.holds Tryd.pinned (OpenSpec.ofChange varsMarksWrong)

/- THE SECOND FORM. 'bulk': how many values and letters a reading holds, each counted each time it is reached (what is shared counts as often as it is met; a slice's spare places count too). A statement '..UptoSaid' is the law's where the arguments, and the package variables that the reading takes, are together of bulk at most 1048576: NARROWER than '..Said'. Prove '..Said' where nothing that the law and all that it calls make is longer than what came in: it says more and counts as full. Else prove '..UptoSaid'. A law counts once. -/
mutual
def uptoBulk {H : Type} : DataW H → Nat
  | .lit (.string bytes) => bytes.length + 1
  | .lit _ => 1
  | .nil => 1
  | .ptr d => uptoBulk d + 1
  | .slice elems spare => uptoBulkAll elems + uptoBulkAll spare + 1
  | .agg parts => uptoBulkAll parts + 1
  | .iface _ d => uptoBulk d + 1
  | .map entries => uptoBulkEntries entries + 1
  | .held _ => 1
def uptoBulkAll {H : Type} : List (DataW H) → Nat
  | [] => 0
  | d :: r => uptoBulk d + uptoBulkAll r
def uptoBulkEntries {H : Type} : List (Lit × DataW H) → Nat
  | [] => 0
  | x :: r => uptoBulkEntry x + uptoBulkEntries r
def uptoBulkEntry {H : Type} : Lit × DataW H → Nat
  | (.string bytes, d) => bytes.length + uptoBulk d + 1
  | (_, d) => uptoBulk d + 1
 end
def uptoSmall : (H : Type) → List (DataW H) → Bool := fun _ ds => decide (uptoBulkAll ds ≤ 1048576)
def OpenSpec.upto (s : _root_.Go.ChangeSpec) : _root_.Go.OpenSpec := { _root_.Go.OpenSpec.ofChange s with cond := some uptoSmall }

/-- 'scullionlaw12.VarsPlays', WHERE WHAT IT READS IS OF BULK AT MOST 1048576: true; the input reads as it did. -/
def varsPlaysUptoRow : OpenClaim := { program := "ytpagcoiekeijbaadoor", sum := "8c1813db56d9f52367c732905a6a476e25e92b96e0e2becac90f7130464d4972", func := "scullion/scullionlaw12.VarsPlays", spec := "varsPlays", inPlace := ["internal/bytealg.IndexByteString", "internal/bytealg.IndexString", "internal/bytealg.abigen_runtime_cmpstring"], unfollowed := true, recurses := true, named := ["internal/bytealg.MaxLen", "scullion/word.operators"], apart := false, laid := [("scullion/word.operators", laid_scullion_word_operators)], narrowed := true }
def VarsPlaysUptoSaid : Prop := varsPlaysUptoRow.holds Tryd.pinned (OpenSpec.upto varsPlaysSpec)

/-- 'scullionlaw12.VarsSets', WHERE WHAT IT READS IS OF BULK AT MOST 1048576: true; the input reads as it did. -/
def varsSetsUptoRow : OpenClaim := { program := "ytpagcoiekeijbaadoor", sum := "8c1813db56d9f52367c732905a6a476e25e92b96e0e2becac90f7130464d4972", func := "scullion/scullionlaw12.VarsSets", spec := "varsSets", inPlace := ["internal/bytealg.IndexByteString", "internal/bytealg.IndexString", "internal/bytealg.abigen_runtime_cmpstring"], unfollowed := true, recurses := true, named := ["internal/bytealg.MaxLen", "scullion/word.operators"], apart := false, laid := [("scullion/word.operators", laid_scullion_word_operators)], narrowed := true }
def VarsSetsUptoSaid : Prop := varsSetsUptoRow.holds Tryd.pinned (OpenSpec.upto varsSetsSpec)

/-- 'scullionlaw12.VarsMarks', WHERE WHAT IT READS IS OF BULK AT MOST 1048576: true; the input reads as it did. -/
def varsMarksUptoRow : OpenClaim := { program := "ytpagcoiekeijbaadoor", sum := "8c1813db56d9f52367c732905a6a476e25e92b96e0e2becac90f7130464d4972", func := "scullion/scullionlaw12.VarsMarks", spec := "varsMarks", inPlace := ["internal/bytealg.IndexByteString", "internal/bytealg.IndexString", "internal/bytealg.abigen_runtime_cmpstring"], unfollowed := true, recurses := true, named := ["internal/bytealg.MaxLen", "scullion/word.operators"], apart := false, laid := [("scullion/word.operators", laid_scullion_word_operators)], narrowed := true }
def VarsMarksUptoSaid : Prop := varsMarksUptoRow.holds Tryd.pinned (OpenSpec.upto varsMarksSpec)

end Rows
end Go.Proofs.YtpagcoiekeijbaaDoor
