/-
  NARROWER THAN 'FOR EVERY INPUT', by the rows' own cells (each row's printed sentence says how): FnPhrases: laid · FnAlphabetTexts: laid · FnExactReadAlphabet: laid.
  DERIVED. THE GIVEN ROWS OF THIS SEAT. 3 by the template 'for every input the law returns true; each argument reads behind the call as it read before'; 0 by the template 'total and deterministic' (their statements: YtnacaglpfpdppaaDoorTotals.lean).
  GIVEN WITH THE SEED: the statements are not yours to turn. If you find one false, say at which input.
  Laid BY PROGRAM, IN A SANDBOX (cutbox-rows.mjs): the forced cells as the released guide's own fill.sh prints them over the translation cfee13aab4f553e0… (all of the seat's roots in one cut). By AI agents, Wed Nov 11 2026. No macro, syntax, notation, axiom, sorry.
-/
import Derived.Test.YtnacaglpfpdppaaDoorChecked
import GoSem.PinnedTables
import GoSem.Claim
import GoSem.ClaimJoined
import GoSem.ClaimMapViews
import Derived.JoinedTies
import Derived.KernelRfl
namespace Go.Proofs.YtnacaglpfpdppaaDoor
/- THE CELL 'sum', in the pinned program and in every row, IS THE sha256 OF THE DUMP (.gsa) THAT YtnacaglpfpdppaaDoorProg.lean LOADS. Nothing in Lean hashes anything: it is a label: what it is worth is what the hold of that sum in a sandbox is worth. -/
noncomputable def Tryd.pinned : Pinned := { name := "ytnacaglpfpdppaadoor", sum := "cfee13aab4f553e003a89793212310cb68e2bdd9c4d89aed1b22e6885d1e7839", checked := Tryd.checked }
namespace Rows
def none {H : Type} : Left H := { results := [], args := [] }

/- WHAT THE LISTED PACKAGE-LEVEL VARIABLES READ AS WHEN THE CALL BEGINS. Each datum BY PROGRAM (the guide's laid-datum.mjs) off the statement by which the dump's own 'gosem.cut.vars' lays the variable. In a bare row this is a premise. The card (YtnacaglpfpdppaaDoorCards.lean) ties it to the program's text. -/
def laid_unicode_utf8_acceptRanges {H : Type} : DataW H := .agg [.agg [.lit (.int .u8 128), .lit (.int .u8 191)], .agg [.lit (.int .u8 160), .lit (.int .u8 191)], .agg [.lit (.int .u8 128), .lit (.int .u8 159)], .agg [.lit (.int .u8 144), .lit (.int .u8 191)], .agg [.lit (.int .u8 128), .lit (.int .u8 143)], .agg [.lit (.int .u8 0), .lit (.int .u8 0)], .agg [.lit (.int .u8 0), .lit (.int .u8 0)], .agg [.lit (.int .u8 0), .lit (.int .u8 0)], .agg [.lit (.int .u8 0), .lit (.int .u8 0)], .agg [.lit (.int .u8 0), .lit (.int .u8 0)], .agg [.lit (.int .u8 0), .lit (.int .u8 0)], .agg [.lit (.int .u8 0), .lit (.int .u8 0)], .agg [.lit (.int .u8 0), .lit (.int .u8 0)], .agg [.lit (.int .u8 0), .lit (.int .u8 0)], .agg [.lit (.int .u8 0), .lit (.int .u8 0)], .agg [.lit (.int .u8 0), .lit (.int .u8 0)]]
/-- One of Go's own tables, pinned by name: the form's constant. -/
def laid_unicode_utf8_first : DataW Unit := Go.Pinned.utf8First

/-- 'laws.FnPhrases': WHATEVER THE INPUT: true; the input reads as it did. -/
def fnPhrasesSpec : ChangeSpec := { name := "fnPhrases", fn := fun _ => fun
  | [d] => { results := [.lit (.bool true)], args := [d] }
  | _ => none }
def fnPhrasesRow : OpenClaim := { program := "ytnacaglpfpdppaadoor", sum := "cfee13aab4f553e003a89793212310cb68e2bdd9c4d89aed1b22e6885d1e7839", func := "loop.example/g01030/laws.FnPhrases", spec := "fnPhrases", inPlace := ["internal/bytealg.CountString", "internal/bytealg.IndexByteString", "internal/bytealg.IndexString", "internal/abi.NoEscape", "internal/bytealg.MakeNoZero"], named := ["unicode/utf8.first", "unicode/utf8.acceptRanges", "internal/bytealg.MaxLen"], apart := false, laid := [("unicode/utf8.acceptRanges", laid_unicode_utf8_acceptRanges), ("unicode/utf8.first", laid_unicode_utf8_first)] }
def FnPhrasesSaid : Prop := fnPhrasesRow.holds Tryd.pinned (OpenSpec.ofChange fnPhrasesSpec)

/-- ITS FALSE NEIGHBOUR: 'it returns false'. Refute it at one input. -/
def fnPhrasesWrong : ChangeSpec := { name := "fnPhrases", fn := fun _ => fun
  | [d] => { results := [.lit (.bool false)], args := [d] }
  | _ => none }
def FnPhrasesWrongFalsely : Prop := fnPhrasesRow.holds Tryd.pinned (OpenSpec.ofChange fnPhrasesWrong)

/-- 'laws.FnAlphabetTexts': WHATEVER THE INPUT: true; the input reads as it did. -/
def fnAlphabetTextsSpec : ChangeSpec := { name := "fnAlphabetTexts", fn := fun _ => fun
  | [d] => { results := [.lit (.bool true)], args := [d] }
  | _ => none }
def fnAlphabetTextsRow : OpenClaim := { program := "ytnacaglpfpdppaadoor", sum := "cfee13aab4f553e003a89793212310cb68e2bdd9c4d89aed1b22e6885d1e7839", func := "loop.example/g01030/laws.FnAlphabetTexts", spec := "fnAlphabetTexts", inPlace := ["internal/abi.NoEscape", "internal/bytealg.MakeNoZero", "internal/bytealg.CountString", "internal/bytealg.IndexByteString", "internal/bytealg.IndexString"], named := ["unicode/utf8.first", "unicode/utf8.acceptRanges", "internal/bytealg.MaxLen"], apart := false, laid := [("unicode/utf8.acceptRanges", laid_unicode_utf8_acceptRanges), ("unicode/utf8.first", laid_unicode_utf8_first)] }
def FnAlphabetTextsSaid : Prop := fnAlphabetTextsRow.holds Tryd.pinned (OpenSpec.ofChange fnAlphabetTextsSpec)

/-- ITS FALSE NEIGHBOUR: 'it returns false'. Refute it at one input. -/
def fnAlphabetTextsWrong : ChangeSpec := { name := "fnAlphabetTexts", fn := fun _ => fun
  | [d] => { results := [.lit (.bool false)], args := [d] }
  | _ => none }
def FnAlphabetTextsWrongFalsely : Prop := fnAlphabetTextsRow.holds Tryd.pinned (OpenSpec.ofChange fnAlphabetTextsWrong)

/-- 'laws.FnExactReadAlphabet': WHATEVER THE INPUT: true; the input reads as it did. -/
def fnExactReadAlphabetSpec : ChangeSpec := { name := "fnExactReadAlphabet", fn := fun _ => fun
  | [d] => { results := [.lit (.bool true)], args := [d] }
  | _ => none }
def fnExactReadAlphabetRow : OpenClaim := { program := "ytnacaglpfpdppaadoor", sum := "cfee13aab4f553e003a89793212310cb68e2bdd9c4d89aed1b22e6885d1e7839", func := "loop.example/g01030/laws.FnExactReadAlphabet", spec := "fnExactReadAlphabet", inPlace := ["internal/bytealg.CountString", "internal/bytealg.IndexByteString", "internal/bytealg.IndexString"], named := ["unicode/utf8.first", "unicode/utf8.acceptRanges", "internal/bytealg.MaxLen"], apart := false, laid := [("unicode/utf8.acceptRanges", laid_unicode_utf8_acceptRanges), ("unicode/utf8.first", laid_unicode_utf8_first)] }
def FnExactReadAlphabetSaid : Prop := fnExactReadAlphabetRow.holds Tryd.pinned (OpenSpec.ofChange fnExactReadAlphabetSpec)

/-- ITS FALSE NEIGHBOUR: 'it returns false'. Refute it at one input. -/
def fnExactReadAlphabetWrong : ChangeSpec := { name := "fnExactReadAlphabet", fn := fun _ => fun
  | [d] => { results := [.lit (.bool false)], args := [d] }
  | _ => none }
def FnExactReadAlphabetWrongFalsely : Prop := fnExactReadAlphabetRow.holds Tryd.pinned (OpenSpec.ofChange fnExactReadAlphabetWrong)

/- THE SECOND FORM. 'bulk': how many values and letters a reading holds, each counted each time it is reached (what is shared counts as often as it is met; a slice's spare places count too). A statement '..UptoSaid' is the law's where the arguments, and the package variables that the reading takes, are together of bulk at most 1048576: NARROWER than '..Said'. Prove '..Said' where nothing that the law and all that it calls make is longer than what came in: it says more and counts as full. Else prove '..UptoSaid'. A law counts once. -/
mutual
def uptoBulk {H : Type} : DataW H → Nat
  | .lit (.string bytes) => bytes.length + 1
  | .lit _ => 1
  | .nil => 1
  | .ptr d => uptoBulk d + 1
  | .slice elems spare => uptoBulkAll elems + uptoBulkAll spare + 1
  | .agg parts => uptoBulkAll parts + 1
  | .iface _ d => uptoBulk d + 1
  | .map entries => uptoBulkEntries entries + 1
  | .held _ => 1
def uptoBulkAll {H : Type} : List (DataW H) → Nat
  | [] => 0
  | d :: r => uptoBulk d + uptoBulkAll r
def uptoBulkEntries {H : Type} : List (Lit × DataW H) → Nat
  | [] => 0
  | x :: r => uptoBulkEntry x + uptoBulkEntries r
def uptoBulkEntry {H : Type} : Lit × DataW H → Nat
  | (.string bytes, d) => bytes.length + uptoBulk d + 1
  | (_, d) => uptoBulk d + 1
 end
def uptoSmall : (H : Type) → List (DataW H) → Bool := fun _ ds => decide (uptoBulkAll ds ≤ 1048576)
def OpenSpec.upto (s : _root_.Go.ChangeSpec) : _root_.Go.OpenSpec := { _root_.Go.OpenSpec.ofChange s with cond := some uptoSmall }

/-- 'laws.FnPhrases', WHERE WHAT IT READS IS OF BULK AT MOST 1048576: true; the input reads as it did. -/
def fnPhrasesUptoRow : OpenClaim := { program := "ytnacaglpfpdppaadoor", sum := "cfee13aab4f553e003a89793212310cb68e2bdd9c4d89aed1b22e6885d1e7839", func := "loop.example/g01030/laws.FnPhrases", spec := "fnPhrases", inPlace := ["internal/bytealg.CountString", "internal/bytealg.IndexByteString", "internal/bytealg.IndexString", "internal/abi.NoEscape", "internal/bytealg.MakeNoZero"], named := ["unicode/utf8.first", "unicode/utf8.acceptRanges", "internal/bytealg.MaxLen"], apart := false, laid := [("unicode/utf8.acceptRanges", laid_unicode_utf8_acceptRanges), ("unicode/utf8.first", laid_unicode_utf8_first)], narrowed := true }
def FnPhrasesUptoSaid : Prop := fnPhrasesUptoRow.holds Tryd.pinned (OpenSpec.upto fnPhrasesSpec)

/-- 'laws.FnAlphabetTexts', WHERE WHAT IT READS IS OF BULK AT MOST 1048576: true; the input reads as it did. -/
def fnAlphabetTextsUptoRow : OpenClaim := { program := "ytnacaglpfpdppaadoor", sum := "cfee13aab4f553e003a89793212310cb68e2bdd9c4d89aed1b22e6885d1e7839", func := "loop.example/g01030/laws.FnAlphabetTexts", spec := "fnAlphabetTexts", inPlace := ["internal/abi.NoEscape", "internal/bytealg.MakeNoZero", "internal/bytealg.CountString", "internal/bytealg.IndexByteString", "internal/bytealg.IndexString"], named := ["unicode/utf8.first", "unicode/utf8.acceptRanges", "internal/bytealg.MaxLen"], apart := false, laid := [("unicode/utf8.acceptRanges", laid_unicode_utf8_acceptRanges), ("unicode/utf8.first", laid_unicode_utf8_first)], narrowed := true }
def FnAlphabetTextsUptoSaid : Prop := fnAlphabetTextsUptoRow.holds Tryd.pinned (OpenSpec.upto fnAlphabetTextsSpec)

/-- 'laws.FnExactReadAlphabet', WHERE WHAT IT READS IS OF BULK AT MOST 1048576: true; the input reads as it did. -/
def fnExactReadAlphabetUptoRow : OpenClaim := { program := "ytnacaglpfpdppaadoor", sum := "cfee13aab4f553e003a89793212310cb68e2bdd9c4d89aed1b22e6885d1e7839", func := "loop.example/g01030/laws.FnExactReadAlphabet", spec := "fnExactReadAlphabet", inPlace := ["internal/bytealg.CountString", "internal/bytealg.IndexByteString", "internal/bytealg.IndexString"], named := ["unicode/utf8.first", "unicode/utf8.acceptRanges", "internal/bytealg.MaxLen"], apart := false, laid := [("unicode/utf8.acceptRanges", laid_unicode_utf8_acceptRanges), ("unicode/utf8.first", laid_unicode_utf8_first)], narrowed := true }
def FnExactReadAlphabetUptoSaid : Prop := fnExactReadAlphabetUptoRow.holds Tryd.pinned (OpenSpec.upto fnExactReadAlphabetSpec)

end Rows
end Go.Proofs.YtnacaglpfpdppaaDoor
