/-
  NARROWER THAN 'FOR EVERY INPUT', by the rows' own cells (each row's printed sentence says how): SyntaxPhrases: laid · SyntaxDeep: laid · SyntaxTwo: laid · SyntaxLines: laid · UnparseAny: loops, laid · UnparseParsed: laid · UnparseBack: laid · UnparseApart: laid.
  DERIVED. THE GIVEN ROWS OF THIS SEAT. 8 by the template 'for every input the law returns true; each argument reads behind the call as it read before'; 0 by the template 'total and deterministic' (their statements: YtahjonfmhejoeaaGreatDoorTotals.lean).
  GIVEN WITH THE SEED: the statements are not yours to turn. If you find one false, say at which input.
  Laid BY PROGRAM, IN A SANDBOX (cutbox-rows.mjs): the forced cells as the released guide's own fill.sh prints them over the translation 3400c46ea9658042… (all of the seat's roots in one cut). By AI agents, Wed Nov 11 2026. No macro, syntax, notation, axiom, sorry.
-/
import Derived.Test.YtahjonfmhejoeaaGreatDoorChecked
import GoSem.PinnedTables
import GoSem.Claim
import GoSem.ClaimJoined
import GoSem.ClaimMapViews
import Derived.JoinedTies
import Derived.KernelRfl
namespace Go.Proofs.YtahjonfmhejoeaaGreatDoor
/- THE CELL 'sum', in the pinned program and in every row, IS THE sha256 OF THE DUMP (.gsa) THAT YtahjonfmhejoeaaGreatDoorProg.lean LOADS. Nothing in Lean hashes anything: it is a label: what it is worth is what the hold of that sum in a sandbox is worth. -/
noncomputable def Tryz.pinned : Pinned := { name := "ytahjonfmhejoeaagreatdoor", sum := "3400c46ea9658042a123c350bbee8b52115c45a8ef2f9b02b8938db49ec4d16d", checked := Tryz.checked }
namespace Rows
def none {H : Type} : Left H := { results := [], args := [] }

/- WHAT THE LISTED PACKAGE-LEVEL VARIABLES READ AS WHEN THE CALL BEGINS. Each datum BY PROGRAM (the guide's laid-datum.mjs) off the statement by which the dump's own 'gosem.cut.vars' lays the variable. In a bare row this is a premise. The card (YtahjonfmhejoeaaGreatDoorCards.lean) ties it to the program's text. -/
def laid_scullion_lexer_operators {H : Type} : DataW H := .agg [.lit (.string [38, 38]), .lit (.string [124, 124]), .lit (.string [59, 59]), .lit (.string [62, 62]), .lit (.string [59]), .lit (.string [124]), .lit (.string [38]), .lit (.string [40]), .lit (.string [41]), .lit (.string [60]), .lit (.string [62])]
def laid_scullion_word_operators {H : Type} : DataW H := .agg [.lit (.string [58, 45]), .lit (.string [58, 61]), .lit (.string [58, 63]), .lit (.string [58, 43]), .lit (.string [37, 37]), .lit (.string [35, 35]), .lit (.string [45]), .lit (.string [61]), .lit (.string [63]), .lit (.string [43]), .lit (.string [37]), .lit (.string [35])]
def laid_unicode_utf8_acceptRanges {H : Type} : DataW H := .agg [.agg [.lit (.int .u8 128), .lit (.int .u8 191)], .agg [.lit (.int .u8 160), .lit (.int .u8 191)], .agg [.lit (.int .u8 128), .lit (.int .u8 159)], .agg [.lit (.int .u8 144), .lit (.int .u8 191)], .agg [.lit (.int .u8 128), .lit (.int .u8 143)], .agg [.lit (.int .u8 0), .lit (.int .u8 0)], .agg [.lit (.int .u8 0), .lit (.int .u8 0)], .agg [.lit (.int .u8 0), .lit (.int .u8 0)], .agg [.lit (.int .u8 0), .lit (.int .u8 0)], .agg [.lit (.int .u8 0), .lit (.int .u8 0)], .agg [.lit (.int .u8 0), .lit (.int .u8 0)], .agg [.lit (.int .u8 0), .lit (.int .u8 0)], .agg [.lit (.int .u8 0), .lit (.int .u8 0)], .agg [.lit (.int .u8 0), .lit (.int .u8 0)], .agg [.lit (.int .u8 0), .lit (.int .u8 0)], .agg [.lit (.int .u8 0), .lit (.int .u8 0)]]
/-- One of Go's own tables, pinned by name: the form's constant. -/
def laid_unicode_utf8_first : DataW Unit := Go.Pinned.utf8First

/-- 'scullionlaw09.SyntaxPhrases': WHATEVER THE INPUT: true; the input reads as it did. -/
def syntaxPhrasesSpec : ChangeSpec := { name := "syntaxPhrases", fn := fun _ => fun
  | [d] => { results := [.lit (.bool true)], args := [d] }
  | _ => none }
def syntaxPhrasesRow : OpenClaim := { program := "ytahjonfmhejoeaagreatdoor", sum := "3400c46ea9658042a123c350bbee8b52115c45a8ef2f9b02b8938db49ec4d16d", func := "scullion/scullionlaw09.SyntaxPhrases", spec := "syntaxPhrases", inPlace := ["internal/bytealg.IndexByteString", "internal/bytealg.IndexString"], unfollowed := true, recurses := true, named := ["scullion/lexer.operators", "internal/bytealg.MaxLen", "scullion/word.operators"], plainKeys := false, apart := false, laid := [("scullion/lexer.operators", laid_scullion_lexer_operators), ("scullion/word.operators", laid_scullion_word_operators)] }
def SyntaxPhrasesSaid : Prop := syntaxPhrasesRow.holds Tryz.pinned (OpenSpec.ofChange syntaxPhrasesSpec)

/-- ITS FALSE NEIGHBOUR: 'it returns false'. Refute it at one input. -/
def syntaxPhrasesWrong : ChangeSpec := { name := "syntaxPhrases", fn := fun _ => fun
  | [d] => { results := [.lit (.bool false)], args := [d] }
  | _ => none }
def SyntaxPhrasesWrongFalsely : Prop := syntaxPhrasesRow.holds Tryz.pinned (OpenSpec.ofChange syntaxPhrasesWrong)

/-- 'scullionlaw09.SyntaxDeep': WHATEVER THE INPUT: true; the input reads as it did. -/
def syntaxDeepSpec : ChangeSpec := { name := "syntaxDeep", fn := fun _ => fun
  | [d1, d2] => { results := [.lit (.bool true)], args := [d1, d2] }
  | _ => none }
def syntaxDeepRow : OpenClaim := { program := "ytahjonfmhejoeaagreatdoor", sum := "3400c46ea9658042a123c350bbee8b52115c45a8ef2f9b02b8938db49ec4d16d", func := "scullion/scullionlaw09.SyntaxDeep", spec := "syntaxDeep", inPlace := ["internal/bytealg.IndexByteString", "internal/bytealg.IndexString"], unfollowed := true, recurses := true, named := ["scullion/lexer.operators", "internal/bytealg.MaxLen", "scullion/word.operators"], plainKeys := false, apart := false, laid := [("scullion/lexer.operators", laid_scullion_lexer_operators), ("scullion/word.operators", laid_scullion_word_operators)] }
def SyntaxDeepSaid : Prop := syntaxDeepRow.holds Tryz.pinned (OpenSpec.ofChange syntaxDeepSpec)

/-- ITS FALSE NEIGHBOUR: 'it returns false'. Refute it at one input. -/
def syntaxDeepWrong : ChangeSpec := { name := "syntaxDeep", fn := fun _ => fun
  | [d1, d2] => { results := [.lit (.bool false)], args := [d1, d2] }
  | _ => none }
def SyntaxDeepWrongFalsely : Prop := syntaxDeepRow.holds Tryz.pinned (OpenSpec.ofChange syntaxDeepWrong)

/-- 'scullionlaw09.SyntaxTwo': WHATEVER THE INPUT: true; the input reads as it did. -/
def syntaxTwoSpec : ChangeSpec := { name := "syntaxTwo", fn := fun _ => fun
  | [d1, d2, d3, d4] => { results := [.lit (.bool true)], args := [d1, d2, d3, d4] }
  | _ => none }
def syntaxTwoRow : OpenClaim := { program := "ytahjonfmhejoeaagreatdoor", sum := "3400c46ea9658042a123c350bbee8b52115c45a8ef2f9b02b8938db49ec4d16d", func := "scullion/scullionlaw09.SyntaxTwo", spec := "syntaxTwo", inPlace := ["internal/bytealg.IndexByteString", "internal/bytealg.IndexString"], unfollowed := true, recurses := true, named := ["scullion/lexer.operators", "internal/bytealg.MaxLen", "scullion/word.operators"], plainKeys := false, apart := false, laid := [("scullion/lexer.operators", laid_scullion_lexer_operators), ("scullion/word.operators", laid_scullion_word_operators)] }
def SyntaxTwoSaid : Prop := syntaxTwoRow.holds Tryz.pinned (OpenSpec.ofChange syntaxTwoSpec)

/-- ITS FALSE NEIGHBOUR: 'it returns false'. Refute it at one input. -/
def syntaxTwoWrong : ChangeSpec := { name := "syntaxTwo", fn := fun _ => fun
  | [d1, d2, d3, d4] => { results := [.lit (.bool false)], args := [d1, d2, d3, d4] }
  | _ => none }
def SyntaxTwoWrongFalsely : Prop := syntaxTwoRow.holds Tryz.pinned (OpenSpec.ofChange syntaxTwoWrong)

/-- 'scullionlaw09.SyntaxLines': WHATEVER THE INPUT: true; the input reads as it did. -/
def syntaxLinesSpec : ChangeSpec := { name := "syntaxLines", fn := fun _ => fun
  | [d1, d2, d3] => { results := [.lit (.bool true)], args := [d1, d2, d3] }
  | _ => none }
def syntaxLinesRow : OpenClaim := { program := "ytahjonfmhejoeaagreatdoor", sum := "3400c46ea9658042a123c350bbee8b52115c45a8ef2f9b02b8938db49ec4d16d", func := "scullion/scullionlaw09.SyntaxLines", spec := "syntaxLines", inPlace := ["internal/bytealg.IndexByteString", "internal/bytealg.IndexString"], unfollowed := true, recurses := true, named := ["scullion/lexer.operators", "internal/bytealg.MaxLen", "scullion/word.operators"], plainKeys := false, apart := false, laid := [("scullion/lexer.operators", laid_scullion_lexer_operators), ("scullion/word.operators", laid_scullion_word_operators)] }
def SyntaxLinesSaid : Prop := syntaxLinesRow.holds Tryz.pinned (OpenSpec.ofChange syntaxLinesSpec)

/-- ITS FALSE NEIGHBOUR: 'it returns false'. Refute it at one input. -/
def syntaxLinesWrong : ChangeSpec := { name := "syntaxLines", fn := fun _ => fun
  | [d1, d2, d3] => { results := [.lit (.bool false)], args := [d1, d2, d3] }
  | _ => none }
def SyntaxLinesWrongFalsely : Prop := syntaxLinesRow.holds Tryz.pinned (OpenSpec.ofChange syntaxLinesWrong)

/-- 'scullionlaw10.UnparseAny': WHATEVER THE INPUT: true; the input reads as it did. -/
def unparseAnySpec : ChangeSpec := { name := "unparseAny", fn := fun _ => fun
  | [d] => { results := [.lit (.bool true)], args := [d] }
  | _ => none }
def unparseAnyRow : OpenClaim := { program := "ytahjonfmhejoeaagreatdoor", sum := "3400c46ea9658042a123c350bbee8b52115c45a8ef2f9b02b8938db49ec4d16d", func := "scullion/scullionlaw10.UnparseAny", spec := "unparseAny", inPlace := ["internal/abi.NoEscape", "internal/bytealg.CountString", "internal/bytealg.IndexByteString", "internal/bytealg.IndexString", "internal/bytealg.MakeNoZero"], unfollowed := true, recurses := true, named := ["internal/bytealg.MaxLen", "unicode/utf8.first", "unicode/utf8.acceptRanges"], loops := true, plainKeys := false, apart := false, laid := [("unicode/utf8.acceptRanges", laid_unicode_utf8_acceptRanges), ("unicode/utf8.first", laid_unicode_utf8_first)] }
def UnparseAnySaid : Prop := unparseAnyRow.holds Tryz.pinned (OpenSpec.ofChange unparseAnySpec)

/-- ITS FALSE NEIGHBOUR: 'it returns false'. Refute it at one input. -/
def unparseAnyWrong : ChangeSpec := { name := "unparseAny", fn := fun _ => fun
  | [d] => { results := [.lit (.bool false)], args := [d] }
  | _ => none }
def UnparseAnyWrongFalsely : Prop := unparseAnyRow.holds Tryz.pinned (OpenSpec.ofChange unparseAnyWrong)

/-- 'scullionlaw10.UnparseParsed': WHATEVER THE INPUT: true; the input reads as it did. -/
def unparseParsedSpec : ChangeSpec := { name := "unparseParsed", fn := fun _ => fun
  | [d1, d2] => { results := [.lit (.bool true)], args := [d1, d2] }
  | _ => none }
def unparseParsedRow : OpenClaim := { program := "ytahjonfmhejoeaagreatdoor", sum := "3400c46ea9658042a123c350bbee8b52115c45a8ef2f9b02b8938db49ec4d16d", func := "scullion/scullionlaw10.UnparseParsed", spec := "unparseParsed", inPlace := ["internal/abi.NoEscape", "internal/bytealg.CountString", "internal/bytealg.IndexByteString", "internal/bytealg.IndexString", "internal/bytealg.MakeNoZero"], unfollowed := true, recurses := true, named := ["internal/bytealg.MaxLen", "unicode/utf8.first", "unicode/utf8.acceptRanges"], plainKeys := false, apart := false, laid := [("unicode/utf8.acceptRanges", laid_unicode_utf8_acceptRanges), ("unicode/utf8.first", laid_unicode_utf8_first)] }
def UnparseParsedSaid : Prop := unparseParsedRow.holds Tryz.pinned (OpenSpec.ofChange unparseParsedSpec)

/-- ITS FALSE NEIGHBOUR: 'it returns false'. Refute it at one input. -/
def unparseParsedWrong : ChangeSpec := { name := "unparseParsed", fn := fun _ => fun
  | [d1, d2] => { results := [.lit (.bool false)], args := [d1, d2] }
  | _ => none }
def UnparseParsedWrongFalsely : Prop := unparseParsedRow.holds Tryz.pinned (OpenSpec.ofChange unparseParsedWrong)

/-- 'scullionlaw10.UnparseBack': WHATEVER THE INPUT: true; the input reads as it did. -/
def unparseBackSpec : ChangeSpec := { name := "unparseBack", fn := fun _ => fun
  | [d1, d2, d3, d4] => { results := [.lit (.bool true)], args := [d1, d2, d3, d4] }
  | _ => none }
def unparseBackRow : OpenClaim := { program := "ytahjonfmhejoeaagreatdoor", sum := "3400c46ea9658042a123c350bbee8b52115c45a8ef2f9b02b8938db49ec4d16d", func := "scullion/scullionlaw10.UnparseBack", spec := "unparseBack", inPlace := ["internal/abi.NoEscape", "internal/bytealg.CountString", "internal/bytealg.IndexByteString", "internal/bytealg.IndexString", "internal/bytealg.MakeNoZero"], unfollowed := true, recurses := true, named := ["internal/bytealg.MaxLen", "unicode/utf8.first", "unicode/utf8.acceptRanges"], plainKeys := false, apart := false, laid := [("unicode/utf8.acceptRanges", laid_unicode_utf8_acceptRanges), ("unicode/utf8.first", laid_unicode_utf8_first)] }
def UnparseBackSaid : Prop := unparseBackRow.holds Tryz.pinned (OpenSpec.ofChange unparseBackSpec)

/-- ITS FALSE NEIGHBOUR: 'it returns false'. Refute it at one input. -/
def unparseBackWrong : ChangeSpec := { name := "unparseBack", fn := fun _ => fun
  | [d1, d2, d3, d4] => { results := [.lit (.bool false)], args := [d1, d2, d3, d4] }
  | _ => none }
def UnparseBackWrongFalsely : Prop := unparseBackRow.holds Tryz.pinned (OpenSpec.ofChange unparseBackWrong)

/-- 'scullionlaw10.UnparseApart': WHATEVER THE INPUT: true; the input reads as it did. -/
def unparseApartSpec : ChangeSpec := { name := "unparseApart", fn := fun _ => fun
  | [d1, d2] => { results := [.lit (.bool true)], args := [d1, d2] }
  | _ => none }
def unparseApartRow : OpenClaim := { program := "ytahjonfmhejoeaagreatdoor", sum := "3400c46ea9658042a123c350bbee8b52115c45a8ef2f9b02b8938db49ec4d16d", func := "scullion/scullionlaw10.UnparseApart", spec := "unparseApart", inPlace := ["internal/abi.NoEscape", "internal/bytealg.CountString", "internal/bytealg.IndexByteString", "internal/bytealg.IndexString", "internal/bytealg.MakeNoZero"], unfollowed := true, recurses := true, named := ["internal/bytealg.MaxLen", "unicode/utf8.first", "unicode/utf8.acceptRanges"], plainKeys := false, apart := false, laid := [("unicode/utf8.acceptRanges", laid_unicode_utf8_acceptRanges), ("unicode/utf8.first", laid_unicode_utf8_first)] }
def UnparseApartSaid : Prop := unparseApartRow.holds Tryz.pinned (OpenSpec.ofChange unparseApartSpec)

/-- ITS FALSE NEIGHBOUR: 'it returns false'. Refute it at one input. -/
def unparseApartWrong : ChangeSpec := { name := "unparseApart", fn := fun _ => fun
  | [d1, d2] => { results := [.lit (.bool false)], args := [d1, d2] }
  | _ => none }
def UnparseApartWrongFalsely : Prop := unparseApartRow.holds Tryz.pinned (OpenSpec.ofChange unparseApartWrong)

/- THE SECOND FORM. 'bulk': how many values and letters a reading holds, each counted each time it is reached (what is shared counts as often as it is met; a slice's spare places count too). A statement '..UptoSaid' is the law's where the arguments, and the package variables that the reading takes, are together of bulk at most 1048576: NARROWER than '..Said'. Prove '..Said' where nothing that the law and all that it calls make is longer than what came in: it says more and counts as full. Else prove '..UptoSaid'. A law counts once. -/
mutual
def uptoBulk {H : Type} : DataW H → Nat
  | .lit (.string bytes) => bytes.length + 1
  | .lit _ => 1
  | .nil => 1
  | .ptr d => uptoBulk d + 1
  | .slice elems spare => uptoBulkAll elems + uptoBulkAll spare + 1
  | .agg parts => uptoBulkAll parts + 1
  | .iface _ d => uptoBulk d + 1
  | .map entries => uptoBulkEntries entries + 1
  | .held _ => 1
def uptoBulkAll {H : Type} : List (DataW H) → Nat
  | [] => 0
  | d :: r => uptoBulk d + uptoBulkAll r
def uptoBulkEntries {H : Type} : List (Lit × DataW H) → Nat
  | [] => 0
  | x :: r => uptoBulkEntry x + uptoBulkEntries r
def uptoBulkEntry {H : Type} : Lit × DataW H → Nat
  | (.string bytes, d) => bytes.length + uptoBulk d + 1
  | (_, d) => uptoBulk d + 1
 end
def uptoSmall : (H : Type) → List (DataW H) → Bool := fun _ ds => decide (uptoBulkAll ds ≤ 1048576)
def OpenSpec.upto (s : _root_.Go.ChangeSpec) : _root_.Go.OpenSpec := { _root_.Go.OpenSpec.ofChange s with cond := some uptoSmall }

/-- 'scullionlaw09.SyntaxPhrases', WHERE WHAT IT READS IS OF BULK AT MOST 1048576: true; the input reads as it did. -/
def syntaxPhrasesUptoRow : OpenClaim := { program := "ytahjonfmhejoeaagreatdoor", sum := "3400c46ea9658042a123c350bbee8b52115c45a8ef2f9b02b8938db49ec4d16d", func := "scullion/scullionlaw09.SyntaxPhrases", spec := "syntaxPhrases", inPlace := ["internal/bytealg.IndexByteString", "internal/bytealg.IndexString"], unfollowed := true, recurses := true, named := ["scullion/lexer.operators", "internal/bytealg.MaxLen", "scullion/word.operators"], plainKeys := false, apart := false, laid := [("scullion/lexer.operators", laid_scullion_lexer_operators), ("scullion/word.operators", laid_scullion_word_operators)], narrowed := true }
def SyntaxPhrasesUptoSaid : Prop := syntaxPhrasesUptoRow.holds Tryz.pinned (OpenSpec.upto syntaxPhrasesSpec)

/-- 'scullionlaw09.SyntaxDeep', WHERE WHAT IT READS IS OF BULK AT MOST 1048576: true; the input reads as it did. -/
def syntaxDeepUptoRow : OpenClaim := { program := "ytahjonfmhejoeaagreatdoor", sum := "3400c46ea9658042a123c350bbee8b52115c45a8ef2f9b02b8938db49ec4d16d", func := "scullion/scullionlaw09.SyntaxDeep", spec := "syntaxDeep", inPlace := ["internal/bytealg.IndexByteString", "internal/bytealg.IndexString"], unfollowed := true, recurses := true, named := ["scullion/lexer.operators", "internal/bytealg.MaxLen", "scullion/word.operators"], plainKeys := false, apart := false, laid := [("scullion/lexer.operators", laid_scullion_lexer_operators), ("scullion/word.operators", laid_scullion_word_operators)], narrowed := true }
def SyntaxDeepUptoSaid : Prop := syntaxDeepUptoRow.holds Tryz.pinned (OpenSpec.upto syntaxDeepSpec)

/-- 'scullionlaw09.SyntaxTwo', WHERE WHAT IT READS IS OF BULK AT MOST 1048576: true; the input reads as it did. -/
def syntaxTwoUptoRow : OpenClaim := { program := "ytahjonfmhejoeaagreatdoor", sum := "3400c46ea9658042a123c350bbee8b52115c45a8ef2f9b02b8938db49ec4d16d", func := "scullion/scullionlaw09.SyntaxTwo", spec := "syntaxTwo", inPlace := ["internal/bytealg.IndexByteString", "internal/bytealg.IndexString"], unfollowed := true, recurses := true, named := ["scullion/lexer.operators", "internal/bytealg.MaxLen", "scullion/word.operators"], plainKeys := false, apart := false, laid := [("scullion/lexer.operators", laid_scullion_lexer_operators), ("scullion/word.operators", laid_scullion_word_operators)], narrowed := true }
def SyntaxTwoUptoSaid : Prop := syntaxTwoUptoRow.holds Tryz.pinned (OpenSpec.upto syntaxTwoSpec)

/-- 'scullionlaw09.SyntaxLines', WHERE WHAT IT READS IS OF BULK AT MOST 1048576: true; the input reads as it did. -/
def syntaxLinesUptoRow : OpenClaim := { program := "ytahjonfmhejoeaagreatdoor", sum := "3400c46ea9658042a123c350bbee8b52115c45a8ef2f9b02b8938db49ec4d16d", func := "scullion/scullionlaw09.SyntaxLines", spec := "syntaxLines", inPlace := ["internal/bytealg.IndexByteString", "internal/bytealg.IndexString"], unfollowed := true, recurses := true, named := ["scullion/lexer.operators", "internal/bytealg.MaxLen", "scullion/word.operators"], plainKeys := false, apart := false, laid := [("scullion/lexer.operators", laid_scullion_lexer_operators), ("scullion/word.operators", laid_scullion_word_operators)], narrowed := true }
def SyntaxLinesUptoSaid : Prop := syntaxLinesUptoRow.holds Tryz.pinned (OpenSpec.upto syntaxLinesSpec)

/-- 'scullionlaw10.UnparseAny', WHERE WHAT IT READS IS OF BULK AT MOST 1048576: true; the input reads as it did. -/
def unparseAnyUptoRow : OpenClaim := { program := "ytahjonfmhejoeaagreatdoor", sum := "3400c46ea9658042a123c350bbee8b52115c45a8ef2f9b02b8938db49ec4d16d", func := "scullion/scullionlaw10.UnparseAny", spec := "unparseAny", inPlace := ["internal/abi.NoEscape", "internal/bytealg.CountString", "internal/bytealg.IndexByteString", "internal/bytealg.IndexString", "internal/bytealg.MakeNoZero"], unfollowed := true, recurses := true, named := ["internal/bytealg.MaxLen", "unicode/utf8.first", "unicode/utf8.acceptRanges"], loops := true, plainKeys := false, apart := false, laid := [("unicode/utf8.acceptRanges", laid_unicode_utf8_acceptRanges), ("unicode/utf8.first", laid_unicode_utf8_first)], narrowed := true }
def UnparseAnyUptoSaid : Prop := unparseAnyUptoRow.holds Tryz.pinned (OpenSpec.upto unparseAnySpec)

/-- 'scullionlaw10.UnparseParsed', WHERE WHAT IT READS IS OF BULK AT MOST 1048576: true; the input reads as it did. -/
def unparseParsedUptoRow : OpenClaim := { program := "ytahjonfmhejoeaagreatdoor", sum := "3400c46ea9658042a123c350bbee8b52115c45a8ef2f9b02b8938db49ec4d16d", func := "scullion/scullionlaw10.UnparseParsed", spec := "unparseParsed", inPlace := ["internal/abi.NoEscape", "internal/bytealg.CountString", "internal/bytealg.IndexByteString", "internal/bytealg.IndexString", "internal/bytealg.MakeNoZero"], unfollowed := true, recurses := true, named := ["internal/bytealg.MaxLen", "unicode/utf8.first", "unicode/utf8.acceptRanges"], plainKeys := false, apart := false, laid := [("unicode/utf8.acceptRanges", laid_unicode_utf8_acceptRanges), ("unicode/utf8.first", laid_unicode_utf8_first)], narrowed := true }
def UnparseParsedUptoSaid : Prop := unparseParsedUptoRow.holds Tryz.pinned (OpenSpec.upto unparseParsedSpec)

/-- 'scullionlaw10.UnparseBack', WHERE WHAT IT READS IS OF BULK AT MOST 1048576: true; the input reads as it did. -/
def unparseBackUptoRow : OpenClaim := { program := "ytahjonfmhejoeaagreatdoor", sum := "3400c46ea9658042a123c350bbee8b52115c45a8ef2f9b02b8938db49ec4d16d", func := "scullion/scullionlaw10.UnparseBack", spec := "unparseBack", inPlace := ["internal/abi.NoEscape", "internal/bytealg.CountString", "internal/bytealg.IndexByteString", "internal/bytealg.IndexString", "internal/bytealg.MakeNoZero"], unfollowed := true, recurses := true, named := ["internal/bytealg.MaxLen", "unicode/utf8.first", "unicode/utf8.acceptRanges"], plainKeys := false, apart := false, laid := [("unicode/utf8.acceptRanges", laid_unicode_utf8_acceptRanges), ("unicode/utf8.first", laid_unicode_utf8_first)], narrowed := true }
def UnparseBackUptoSaid : Prop := unparseBackUptoRow.holds Tryz.pinned (OpenSpec.upto unparseBackSpec)

/-- 'scullionlaw10.UnparseApart', WHERE WHAT IT READS IS OF BULK AT MOST 1048576: true; the input reads as it did. -/
def unparseApartUptoRow : OpenClaim := { program := "ytahjonfmhejoeaagreatdoor", sum := "3400c46ea9658042a123c350bbee8b52115c45a8ef2f9b02b8938db49ec4d16d", func := "scullion/scullionlaw10.UnparseApart", spec := "unparseApart", inPlace := ["internal/abi.NoEscape", "internal/bytealg.CountString", "internal/bytealg.IndexByteString", "internal/bytealg.IndexString", "internal/bytealg.MakeNoZero"], unfollowed := true, recurses := true, named := ["internal/bytealg.MaxLen", "unicode/utf8.first", "unicode/utf8.acceptRanges"], plainKeys := false, apart := false, laid := [("unicode/utf8.acceptRanges", laid_unicode_utf8_acceptRanges), ("unicode/utf8.first", laid_unicode_utf8_first)], narrowed := true }
def UnparseApartUptoSaid : Prop := unparseApartUptoRow.holds Tryz.pinned (OpenSpec.upto unparseApartSpec)

end Rows
end Go.Proofs.YtahjonfmhejoeaaGreatDoor
