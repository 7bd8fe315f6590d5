/-
  NARROWER THAN 'FOR EVERY INPUT', by the rows' own cells (each row's printed sentence says how): ExactOf: laid · ExactParses: laid · ExactFracs: laid · ExactCounts: laid · ExactTails: laid · ExactBounds: laid · ExactLaws: laid · ExactTexts: laid · ExactSets: laid · ExactPascal: laid · ExactSampling: laid.
  DERIVED. THE GIVEN ROWS OF THIS SEAT. 11 by the template 'for every input the law returns true; each argument reads behind the call as it read before'; 0 by the template 'total and deterministic' (their statements: YtjmceapnhmeflaaDoorTotals.lean).
  GIVEN WITH THE SEED: the statements are not yours to turn. If you find one false, say at which input.
  Laid BY PROGRAM, IN A SANDBOX (cutbox-rows.mjs): the forced cells as the released guide's own fill.sh prints them over the translation 6493296cc4878f72… (all of the seat's roots in one cut). By AI agents, Wed Nov 11 2026. No macro, syntax, notation, axiom, sorry.
-/
import Derived.Test.YtjmceapnhmeflaaDoorChecked
import GoSem.PinnedTables
import GoSem.Claim
import GoSem.ClaimJoined
import GoSem.ClaimMapViews
import Derived.JoinedTies
import Derived.KernelRfl
namespace Go.Proofs.YtjmceapnhmeflaaDoor
/- THE CELL 'sum', in the pinned program and in every row, IS THE sha256 OF THE DUMP (.gsa) THAT YtjmceapnhmeflaaDoorProg.lean LOADS. Nothing in Lean hashes anything: it is a label: what it is worth is what the hold of that sum in a sandbox is worth. -/
noncomputable def Tryd.pinned : Pinned := { name := "ytjmceapnhmeflaadoor", sum := "6493296cc4878f72972c22be3a5d41e05b4de8974f976dd21ece30a69f7fc0fe", checked := Tryd.checked }
namespace Rows
def none {H : Type} : Left H := { results := [], args := [] }

/- WHAT THE LISTED PACKAGE-LEVEL VARIABLES READ AS WHEN THE CALL BEGINS. Each datum BY PROGRAM (the guide's laid-datum.mjs) off the statement by which the dump's own 'gosem.cut.vars' lays the variable. In a bare row this is a premise. The card (YtjmceapnhmeflaaDoorCards.lean) ties it to the program's text. -/
def laid_unicode_utf8_acceptRanges {H : Type} : DataW H := .agg [.agg [.lit (.int .u8 128), .lit (.int .u8 191)], .agg [.lit (.int .u8 160), .lit (.int .u8 191)], .agg [.lit (.int .u8 128), .lit (.int .u8 159)], .agg [.lit (.int .u8 144), .lit (.int .u8 191)], .agg [.lit (.int .u8 128), .lit (.int .u8 143)], .agg [.lit (.int .u8 0), .lit (.int .u8 0)], .agg [.lit (.int .u8 0), .lit (.int .u8 0)], .agg [.lit (.int .u8 0), .lit (.int .u8 0)], .agg [.lit (.int .u8 0), .lit (.int .u8 0)], .agg [.lit (.int .u8 0), .lit (.int .u8 0)], .agg [.lit (.int .u8 0), .lit (.int .u8 0)], .agg [.lit (.int .u8 0), .lit (.int .u8 0)], .agg [.lit (.int .u8 0), .lit (.int .u8 0)], .agg [.lit (.int .u8 0), .lit (.int .u8 0)], .agg [.lit (.int .u8 0), .lit (.int .u8 0)], .agg [.lit (.int .u8 0), .lit (.int .u8 0)]]
/-- One of Go's own tables, pinned by name: the form's constant. -/
def laid_unicode_utf8_first : DataW Unit := Go.Pinned.utf8First

/-- 'waveplatelaw01.ExactOf': WHATEVER THE INPUT: true; the input reads as it did. -/
def exactOfSpec : ChangeSpec := { name := "exactOf", fn := fun _ => fun
  | [d] => { results := [.lit (.bool true)], args := [d] }
  | _ => none }
def exactOfRow : OpenClaim := { program := "ytjmceapnhmeflaadoor", sum := "6493296cc4878f72972c22be3a5d41e05b4de8974f976dd21ece30a69f7fc0fe", func := "waveplate/waveplatelaw01.ExactOf", spec := "exactOf", inPlace := ["internal/bytealg.IndexByteString", "internal/bytealg.IndexString"], unfollowed := true, recurses := true, named := ["math/bits.overflowError", "unicode/utf8.first", "unicode/utf8.acceptRanges", "internal/bytealg.MaxLen"], apart := false, laid := [("unicode/utf8.acceptRanges", laid_unicode_utf8_acceptRanges), ("unicode/utf8.first", laid_unicode_utf8_first)] }
def ExactOfSaid : Prop := exactOfRow.holds Tryd.pinned (OpenSpec.ofChange exactOfSpec)

/-- ITS FALSE NEIGHBOUR: 'it returns false'. Refute it at one input. -/
def exactOfWrong : ChangeSpec := { name := "exactOf", fn := fun _ => fun
  | [d] => { results := [.lit (.bool false)], args := [d] }
  | _ => none }
def ExactOfWrongFalsely : Prop := exactOfRow.holds Tryd.pinned (OpenSpec.ofChange exactOfWrong)

/-- 'waveplatelaw01.ExactParses': WHATEVER THE INPUT: true; the input reads as it did. -/
def exactParsesSpec : ChangeSpec := { name := "exactParses", fn := fun _ => fun
  | [d] => { results := [.lit (.bool true)], args := [d] }
  | _ => none }
def exactParsesRow : OpenClaim := { program := "ytjmceapnhmeflaadoor", sum := "6493296cc4878f72972c22be3a5d41e05b4de8974f976dd21ece30a69f7fc0fe", func := "waveplate/waveplatelaw01.ExactParses", spec := "exactParses", inPlace := ["internal/bytealg.IndexByteString", "internal/bytealg.IndexString"], unfollowed := true, recurses := true, named := ["math/bits.overflowError", "unicode/utf8.first", "unicode/utf8.acceptRanges", "internal/bytealg.MaxLen"], apart := false, laid := [("unicode/utf8.acceptRanges", laid_unicode_utf8_acceptRanges), ("unicode/utf8.first", laid_unicode_utf8_first)] }
def ExactParsesSaid : Prop := exactParsesRow.holds Tryd.pinned (OpenSpec.ofChange exactParsesSpec)

/-- ITS FALSE NEIGHBOUR: 'it returns false'. Refute it at one input. -/
def exactParsesWrong : ChangeSpec := { name := "exactParses", fn := fun _ => fun
  | [d] => { results := [.lit (.bool false)], args := [d] }
  | _ => none }
def ExactParsesWrongFalsely : Prop := exactParsesRow.holds Tryd.pinned (OpenSpec.ofChange exactParsesWrong)

/-- 'waveplatelaw01.ExactFracs': WHATEVER THE INPUT: true; the input reads as it did. -/
def exactFracsSpec : ChangeSpec := { name := "exactFracs", fn := fun _ => fun
  | [d1, d2] => { results := [.lit (.bool true)], args := [d1, d2] }
  | _ => none }
def exactFracsRow : OpenClaim := { program := "ytjmceapnhmeflaadoor", sum := "6493296cc4878f72972c22be3a5d41e05b4de8974f976dd21ece30a69f7fc0fe", func := "waveplate/waveplatelaw01.ExactFracs", spec := "exactFracs", inPlace := ["internal/bytealg.IndexByteString", "internal/bytealg.IndexString"], unfollowed := true, recurses := true, named := ["math/bits.overflowError", "unicode/utf8.first", "unicode/utf8.acceptRanges", "internal/bytealg.MaxLen"], apart := false, laid := [("unicode/utf8.acceptRanges", laid_unicode_utf8_acceptRanges), ("unicode/utf8.first", laid_unicode_utf8_first)] }
def ExactFracsSaid : Prop := exactFracsRow.holds Tryd.pinned (OpenSpec.ofChange exactFracsSpec)

/-- ITS FALSE NEIGHBOUR: 'it returns false'. Refute it at one input. -/
def exactFracsWrong : ChangeSpec := { name := "exactFracs", fn := fun _ => fun
  | [d1, d2] => { results := [.lit (.bool false)], args := [d1, d2] }
  | _ => none }
def ExactFracsWrongFalsely : Prop := exactFracsRow.holds Tryd.pinned (OpenSpec.ofChange exactFracsWrong)

/-- 'waveplatelaw01.ExactCounts': WHATEVER THE INPUT: true; the input reads as it did. -/
def exactCountsSpec : ChangeSpec := { name := "exactCounts", fn := fun _ => fun
  | [d1, d2] => { results := [.lit (.bool true)], args := [d1, d2] }
  | _ => none }
def exactCountsRow : OpenClaim := { program := "ytjmceapnhmeflaadoor", sum := "6493296cc4878f72972c22be3a5d41e05b4de8974f976dd21ece30a69f7fc0fe", func := "waveplate/waveplatelaw01.ExactCounts", spec := "exactCounts", inPlace := ["internal/bytealg.IndexByteString", "internal/bytealg.IndexString"], unfollowed := true, recurses := true, named := ["math/bits.overflowError", "unicode/utf8.first", "unicode/utf8.acceptRanges", "internal/bytealg.MaxLen"], apart := false, laid := [("unicode/utf8.acceptRanges", laid_unicode_utf8_acceptRanges), ("unicode/utf8.first", laid_unicode_utf8_first)] }
def ExactCountsSaid : Prop := exactCountsRow.holds Tryd.pinned (OpenSpec.ofChange exactCountsSpec)

/-- ITS FALSE NEIGHBOUR: 'it returns false'. Refute it at one input. -/
def exactCountsWrong : ChangeSpec := { name := "exactCounts", fn := fun _ => fun
  | [d1, d2] => { results := [.lit (.bool false)], args := [d1, d2] }
  | _ => none }
def ExactCountsWrongFalsely : Prop := exactCountsRow.holds Tryd.pinned (OpenSpec.ofChange exactCountsWrong)

/-- 'waveplatelaw01.ExactTails': WHATEVER THE INPUT: true; the input reads as it did. -/
def exactTailsSpec : ChangeSpec := { name := "exactTails", fn := fun _ => fun
  | [d1, d2, d3, d4] => { results := [.lit (.bool true)], args := [d1, d2, d3, d4] }
  | _ => none }
def exactTailsRow : OpenClaim := { program := "ytjmceapnhmeflaadoor", sum := "6493296cc4878f72972c22be3a5d41e05b4de8974f976dd21ece30a69f7fc0fe", func := "waveplate/waveplatelaw01.ExactTails", spec := "exactTails", inPlace := ["internal/bytealg.IndexByteString", "internal/bytealg.IndexString"], unfollowed := true, recurses := true, named := ["math/bits.overflowError", "unicode/utf8.first", "unicode/utf8.acceptRanges", "internal/bytealg.MaxLen"], apart := false, laid := [("unicode/utf8.acceptRanges", laid_unicode_utf8_acceptRanges), ("unicode/utf8.first", laid_unicode_utf8_first)] }
def ExactTailsSaid : Prop := exactTailsRow.holds Tryd.pinned (OpenSpec.ofChange exactTailsSpec)

/-- ITS FALSE NEIGHBOUR: 'it returns false'. Refute it at one input. -/
def exactTailsWrong : ChangeSpec := { name := "exactTails", fn := fun _ => fun
  | [d1, d2, d3, d4] => { results := [.lit (.bool false)], args := [d1, d2, d3, d4] }
  | _ => none }
def ExactTailsWrongFalsely : Prop := exactTailsRow.holds Tryd.pinned (OpenSpec.ofChange exactTailsWrong)

/-- 'waveplatelaw01.ExactBounds': WHATEVER THE INPUT: true; the input reads as it did. -/
def exactBoundsSpec : ChangeSpec := { name := "exactBounds", fn := fun _ => fun
  | [d1, d2, d3, d4] => { results := [.lit (.bool true)], args := [d1, d2, d3, d4] }
  | _ => none }
def exactBoundsRow : OpenClaim := { program := "ytjmceapnhmeflaadoor", sum := "6493296cc4878f72972c22be3a5d41e05b4de8974f976dd21ece30a69f7fc0fe", func := "waveplate/waveplatelaw01.ExactBounds", spec := "exactBounds", inPlace := ["internal/bytealg.IndexByteString", "internal/bytealg.IndexString"], unfollowed := true, recurses := true, named := ["math/bits.overflowError", "unicode/utf8.first", "unicode/utf8.acceptRanges", "internal/bytealg.MaxLen"], apart := false, laid := [("unicode/utf8.acceptRanges", laid_unicode_utf8_acceptRanges), ("unicode/utf8.first", laid_unicode_utf8_first)] }
def ExactBoundsSaid : Prop := exactBoundsRow.holds Tryd.pinned (OpenSpec.ofChange exactBoundsSpec)

/-- ITS FALSE NEIGHBOUR: 'it returns false'. Refute it at one input. -/
def exactBoundsWrong : ChangeSpec := { name := "exactBounds", fn := fun _ => fun
  | [d1, d2, d3, d4] => { results := [.lit (.bool false)], args := [d1, d2, d3, d4] }
  | _ => none }
def ExactBoundsWrongFalsely : Prop := exactBoundsRow.holds Tryd.pinned (OpenSpec.ofChange exactBoundsWrong)

/-- 'waveplatelaw01.ExactLaws': WHATEVER THE INPUT: true; the input reads as it did. -/
def exactLawsSpec : ChangeSpec := { name := "exactLaws", fn := fun _ => fun
  | [d1, d2, d3] => { results := [.lit (.bool true)], args := [d1, d2, d3] }
  | _ => none }
def exactLawsRow : OpenClaim := { program := "ytjmceapnhmeflaadoor", sum := "6493296cc4878f72972c22be3a5d41e05b4de8974f976dd21ece30a69f7fc0fe", func := "waveplate/waveplatelaw01.ExactLaws", spec := "exactLaws", inPlace := ["internal/bytealg.IndexByteString", "internal/bytealg.IndexString"], unfollowed := true, recurses := true, named := ["math/bits.overflowError", "unicode/utf8.first", "unicode/utf8.acceptRanges", "internal/bytealg.MaxLen"], apart := false, laid := [("unicode/utf8.acceptRanges", laid_unicode_utf8_acceptRanges), ("unicode/utf8.first", laid_unicode_utf8_first)] }
def ExactLawsSaid : Prop := exactLawsRow.holds Tryd.pinned (OpenSpec.ofChange exactLawsSpec)

/-- ITS FALSE NEIGHBOUR: 'it returns false'. Refute it at one input. -/
def exactLawsWrong : ChangeSpec := { name := "exactLaws", fn := fun _ => fun
  | [d1, d2, d3] => { results := [.lit (.bool false)], args := [d1, d2, d3] }
  | _ => none }
def ExactLawsWrongFalsely : Prop := exactLawsRow.holds Tryd.pinned (OpenSpec.ofChange exactLawsWrong)

/-- 'waveplatelaw01.ExactTexts': WHATEVER THE INPUT: true; the input reads as it did. -/
def exactTextsSpec : ChangeSpec := { name := "exactTexts", fn := fun _ => fun
  | [d1, d2] => { results := [.lit (.bool true)], args := [d1, d2] }
  | _ => none }
def exactTextsRow : OpenClaim := { program := "ytjmceapnhmeflaadoor", sum := "6493296cc4878f72972c22be3a5d41e05b4de8974f976dd21ece30a69f7fc0fe", func := "waveplate/waveplatelaw01.ExactTexts", spec := "exactTexts", inPlace := ["internal/bytealg.IndexByteString", "internal/bytealg.IndexString"], unfollowed := true, recurses := true, named := ["math/bits.overflowError", "unicode/utf8.first", "unicode/utf8.acceptRanges", "internal/bytealg.MaxLen"], apart := false, laid := [("unicode/utf8.acceptRanges", laid_unicode_utf8_acceptRanges), ("unicode/utf8.first", laid_unicode_utf8_first)] }
def ExactTextsSaid : Prop := exactTextsRow.holds Tryd.pinned (OpenSpec.ofChange exactTextsSpec)

/-- ITS FALSE NEIGHBOUR: 'it returns false'. Refute it at one input. -/
def exactTextsWrong : ChangeSpec := { name := "exactTexts", fn := fun _ => fun
  | [d1, d2] => { results := [.lit (.bool false)], args := [d1, d2] }
  | _ => none }
def ExactTextsWrongFalsely : Prop := exactTextsRow.holds Tryd.pinned (OpenSpec.ofChange exactTextsWrong)

/-- 'waveplatelaw01.ExactSets': WHATEVER THE INPUT: true; the input reads as it did. -/
def exactSetsSpec : ChangeSpec := { name := "exactSets", fn := fun _ => fun
  | [d1, d2] => { results := [.lit (.bool true)], args := [d1, d2] }
  | _ => none }
def exactSetsRow : OpenClaim := { program := "ytjmceapnhmeflaadoor", sum := "6493296cc4878f72972c22be3a5d41e05b4de8974f976dd21ece30a69f7fc0fe", func := "waveplate/waveplatelaw01.ExactSets", spec := "exactSets", inPlace := ["internal/bytealg.IndexByteString", "internal/bytealg.IndexString"], unfollowed := true, recurses := true, named := ["math/bits.overflowError", "unicode/utf8.first", "unicode/utf8.acceptRanges", "internal/bytealg.MaxLen"], apart := false, laid := [("unicode/utf8.acceptRanges", laid_unicode_utf8_acceptRanges), ("unicode/utf8.first", laid_unicode_utf8_first)] }
def ExactSetsSaid : Prop := exactSetsRow.holds Tryd.pinned (OpenSpec.ofChange exactSetsSpec)

/-- ITS FALSE NEIGHBOUR: 'it returns false'. Refute it at one input. -/
def exactSetsWrong : ChangeSpec := { name := "exactSets", fn := fun _ => fun
  | [d1, d2] => { results := [.lit (.bool false)], args := [d1, d2] }
  | _ => none }
def ExactSetsWrongFalsely : Prop := exactSetsRow.holds Tryd.pinned (OpenSpec.ofChange exactSetsWrong)

/-- 'waveplatelaw01.ExactPascal': WHATEVER THE INPUT: true; the input reads as it did. -/
def exactPascalSpec : ChangeSpec := { name := "exactPascal", fn := fun _ => fun
  | [d1, d2] => { results := [.lit (.bool true)], args := [d1, d2] }
  | _ => none }
def exactPascalRow : OpenClaim := { program := "ytjmceapnhmeflaadoor", sum := "6493296cc4878f72972c22be3a5d41e05b4de8974f976dd21ece30a69f7fc0fe", func := "waveplate/waveplatelaw01.ExactPascal", spec := "exactPascal", inPlace := ["internal/bytealg.IndexByteString", "internal/bytealg.IndexString"], unfollowed := true, recurses := true, named := ["math/bits.overflowError", "unicode/utf8.first", "unicode/utf8.acceptRanges", "internal/bytealg.MaxLen"], apart := false, laid := [("unicode/utf8.acceptRanges", laid_unicode_utf8_acceptRanges), ("unicode/utf8.first", laid_unicode_utf8_first)] }
def ExactPascalSaid : Prop := exactPascalRow.holds Tryd.pinned (OpenSpec.ofChange exactPascalSpec)

/-- ITS FALSE NEIGHBOUR: 'it returns false'. Refute it at one input. -/
def exactPascalWrong : ChangeSpec := { name := "exactPascal", fn := fun _ => fun
  | [d1, d2] => { results := [.lit (.bool false)], args := [d1, d2] }
  | _ => none }
def ExactPascalWrongFalsely : Prop := exactPascalRow.holds Tryd.pinned (OpenSpec.ofChange exactPascalWrong)

/-- 'waveplatelaw01.ExactSampling': WHATEVER THE INPUT: true; the input reads as it did. -/
def exactSamplingSpec : ChangeSpec := { name := "exactSampling", fn := fun _ => fun
  | [d1, d2, d3, d4] => { results := [.lit (.bool true)], args := [d1, d2, d3, d4] }
  | _ => none }
def exactSamplingRow : OpenClaim := { program := "ytjmceapnhmeflaadoor", sum := "6493296cc4878f72972c22be3a5d41e05b4de8974f976dd21ece30a69f7fc0fe", func := "waveplate/waveplatelaw01.ExactSampling", spec := "exactSampling", inPlace := ["internal/bytealg.IndexByteString", "internal/bytealg.IndexString"], unfollowed := true, recurses := true, named := ["math/bits.overflowError", "unicode/utf8.first", "unicode/utf8.acceptRanges", "internal/bytealg.MaxLen"], apart := false, laid := [("unicode/utf8.acceptRanges", laid_unicode_utf8_acceptRanges), ("unicode/utf8.first", laid_unicode_utf8_first)] }
def ExactSamplingSaid : Prop := exactSamplingRow.holds Tryd.pinned (OpenSpec.ofChange exactSamplingSpec)

/-- ITS FALSE NEIGHBOUR: 'it returns false'. Refute it at one input. -/
def exactSamplingWrong : ChangeSpec := { name := "exactSampling", fn := fun _ => fun
  | [d1, d2, d3, d4] => { results := [.lit (.bool false)], args := [d1, d2, d3, d4] }
  | _ => none }
def ExactSamplingWrongFalsely : Prop := exactSamplingRow.holds Tryd.pinned (OpenSpec.ofChange exactSamplingWrong)

/- THE SECOND FORM. 'bulk': how many values and letters a reading holds, each counted each time it is reached (what is shared counts as often as it is met; a slice's spare places count too). A statement '..UptoSaid' is the law's where the arguments, and the package variables that the reading takes, are together of bulk at most 1048576: NARROWER than '..Said'. Prove '..Said' where nothing that the law and all that it calls make is longer than what came in: it says more and counts as full. Else prove '..UptoSaid'. A law counts once. -/
mutual
def uptoBulk {H : Type} : DataW H → Nat
  | .lit (.string bytes) => bytes.length + 1
  | .lit _ => 1
  | .nil => 1
  | .ptr d => uptoBulk d + 1
  | .slice elems spare => uptoBulkAll elems + uptoBulkAll spare + 1
  | .agg parts => uptoBulkAll parts + 1
  | .iface _ d => uptoBulk d + 1
  | .map entries => uptoBulkEntries entries + 1
  | .held _ => 1
def uptoBulkAll {H : Type} : List (DataW H) → Nat
  | [] => 0
  | d :: r => uptoBulk d + uptoBulkAll r
def uptoBulkEntries {H : Type} : List (Lit × DataW H) → Nat
  | [] => 0
  | x :: r => uptoBulkEntry x + uptoBulkEntries r
def uptoBulkEntry {H : Type} : Lit × DataW H → Nat
  | (.string bytes, d) => bytes.length + uptoBulk d + 1
  | (_, d) => uptoBulk d + 1
 end
def uptoSmall : (H : Type) → List (DataW H) → Bool := fun _ ds => decide (uptoBulkAll ds ≤ 1048576)
def OpenSpec.upto (s : _root_.Go.ChangeSpec) : _root_.Go.OpenSpec := { _root_.Go.OpenSpec.ofChange s with cond := some uptoSmall }

/-- 'waveplatelaw01.ExactOf', WHERE WHAT IT READS IS OF BULK AT MOST 1048576: true; the input reads as it did. -/
def exactOfUptoRow : OpenClaim := { program := "ytjmceapnhmeflaadoor", sum := "6493296cc4878f72972c22be3a5d41e05b4de8974f976dd21ece30a69f7fc0fe", func := "waveplate/waveplatelaw01.ExactOf", spec := "exactOf", inPlace := ["internal/bytealg.IndexByteString", "internal/bytealg.IndexString"], unfollowed := true, recurses := true, named := ["math/bits.overflowError", "unicode/utf8.first", "unicode/utf8.acceptRanges", "internal/bytealg.MaxLen"], apart := false, laid := [("unicode/utf8.acceptRanges", laid_unicode_utf8_acceptRanges), ("unicode/utf8.first", laid_unicode_utf8_first)], narrowed := true }
def ExactOfUptoSaid : Prop := exactOfUptoRow.holds Tryd.pinned (OpenSpec.upto exactOfSpec)

/-- 'waveplatelaw01.ExactParses', WHERE WHAT IT READS IS OF BULK AT MOST 1048576: true; the input reads as it did. -/
def exactParsesUptoRow : OpenClaim := { program := "ytjmceapnhmeflaadoor", sum := "6493296cc4878f72972c22be3a5d41e05b4de8974f976dd21ece30a69f7fc0fe", func := "waveplate/waveplatelaw01.ExactParses", spec := "exactParses", inPlace := ["internal/bytealg.IndexByteString", "internal/bytealg.IndexString"], unfollowed := true, recurses := true, named := ["math/bits.overflowError", "unicode/utf8.first", "unicode/utf8.acceptRanges", "internal/bytealg.MaxLen"], apart := false, laid := [("unicode/utf8.acceptRanges", laid_unicode_utf8_acceptRanges), ("unicode/utf8.first", laid_unicode_utf8_first)], narrowed := true }
def ExactParsesUptoSaid : Prop := exactParsesUptoRow.holds Tryd.pinned (OpenSpec.upto exactParsesSpec)

/-- 'waveplatelaw01.ExactFracs', WHERE WHAT IT READS IS OF BULK AT MOST 1048576: true; the input reads as it did. -/
def exactFracsUptoRow : OpenClaim := { program := "ytjmceapnhmeflaadoor", sum := "6493296cc4878f72972c22be3a5d41e05b4de8974f976dd21ece30a69f7fc0fe", func := "waveplate/waveplatelaw01.ExactFracs", spec := "exactFracs", inPlace := ["internal/bytealg.IndexByteString", "internal/bytealg.IndexString"], unfollowed := true, recurses := true, named := ["math/bits.overflowError", "unicode/utf8.first", "unicode/utf8.acceptRanges", "internal/bytealg.MaxLen"], apart := false, laid := [("unicode/utf8.acceptRanges", laid_unicode_utf8_acceptRanges), ("unicode/utf8.first", laid_unicode_utf8_first)], narrowed := true }
def ExactFracsUptoSaid : Prop := exactFracsUptoRow.holds Tryd.pinned (OpenSpec.upto exactFracsSpec)

/-- 'waveplatelaw01.ExactCounts', WHERE WHAT IT READS IS OF BULK AT MOST 1048576: true; the input reads as it did. -/
def exactCountsUptoRow : OpenClaim := { program := "ytjmceapnhmeflaadoor", sum := "6493296cc4878f72972c22be3a5d41e05b4de8974f976dd21ece30a69f7fc0fe", func := "waveplate/waveplatelaw01.ExactCounts", spec := "exactCounts", inPlace := ["internal/bytealg.IndexByteString", "internal/bytealg.IndexString"], unfollowed := true, recurses := true, named := ["math/bits.overflowError", "unicode/utf8.first", "unicode/utf8.acceptRanges", "internal/bytealg.MaxLen"], apart := false, laid := [("unicode/utf8.acceptRanges", laid_unicode_utf8_acceptRanges), ("unicode/utf8.first", laid_unicode_utf8_first)], narrowed := true }
def ExactCountsUptoSaid : Prop := exactCountsUptoRow.holds Tryd.pinned (OpenSpec.upto exactCountsSpec)

/-- 'waveplatelaw01.ExactTails', WHERE WHAT IT READS IS OF BULK AT MOST 1048576: true; the input reads as it did. -/
def exactTailsUptoRow : OpenClaim := { program := "ytjmceapnhmeflaadoor", sum := "6493296cc4878f72972c22be3a5d41e05b4de8974f976dd21ece30a69f7fc0fe", func := "waveplate/waveplatelaw01.ExactTails", spec := "exactTails", inPlace := ["internal/bytealg.IndexByteString", "internal/bytealg.IndexString"], unfollowed := true, recurses := true, named := ["math/bits.overflowError", "unicode/utf8.first", "unicode/utf8.acceptRanges", "internal/bytealg.MaxLen"], apart := false, laid := [("unicode/utf8.acceptRanges", laid_unicode_utf8_acceptRanges), ("unicode/utf8.first", laid_unicode_utf8_first)], narrowed := true }
def ExactTailsUptoSaid : Prop := exactTailsUptoRow.holds Tryd.pinned (OpenSpec.upto exactTailsSpec)

/-- 'waveplatelaw01.ExactBounds', WHERE WHAT IT READS IS OF BULK AT MOST 1048576: true; the input reads as it did. -/
def exactBoundsUptoRow : OpenClaim := { program := "ytjmceapnhmeflaadoor", sum := "6493296cc4878f72972c22be3a5d41e05b4de8974f976dd21ece30a69f7fc0fe", func := "waveplate/waveplatelaw01.ExactBounds", spec := "exactBounds", inPlace := ["internal/bytealg.IndexByteString", "internal/bytealg.IndexString"], unfollowed := true, recurses := true, named := ["math/bits.overflowError", "unicode/utf8.first", "unicode/utf8.acceptRanges", "internal/bytealg.MaxLen"], apart := false, laid := [("unicode/utf8.acceptRanges", laid_unicode_utf8_acceptRanges), ("unicode/utf8.first", laid_unicode_utf8_first)], narrowed := true }
def ExactBoundsUptoSaid : Prop := exactBoundsUptoRow.holds Tryd.pinned (OpenSpec.upto exactBoundsSpec)

/-- 'waveplatelaw01.ExactLaws', WHERE WHAT IT READS IS OF BULK AT MOST 1048576: true; the input reads as it did. -/
def exactLawsUptoRow : OpenClaim := { program := "ytjmceapnhmeflaadoor", sum := "6493296cc4878f72972c22be3a5d41e05b4de8974f976dd21ece30a69f7fc0fe", func := "waveplate/waveplatelaw01.ExactLaws", spec := "exactLaws", inPlace := ["internal/bytealg.IndexByteString", "internal/bytealg.IndexString"], unfollowed := true, recurses := true, named := ["math/bits.overflowError", "unicode/utf8.first", "unicode/utf8.acceptRanges", "internal/bytealg.MaxLen"], apart := false, laid := [("unicode/utf8.acceptRanges", laid_unicode_utf8_acceptRanges), ("unicode/utf8.first", laid_unicode_utf8_first)], narrowed := true }
def ExactLawsUptoSaid : Prop := exactLawsUptoRow.holds Tryd.pinned (OpenSpec.upto exactLawsSpec)

/-- 'waveplatelaw01.ExactTexts', WHERE WHAT IT READS IS OF BULK AT MOST 1048576: true; the input reads as it did. -/
def exactTextsUptoRow : OpenClaim := { program := "ytjmceapnhmeflaadoor", sum := "6493296cc4878f72972c22be3a5d41e05b4de8974f976dd21ece30a69f7fc0fe", func := "waveplate/waveplatelaw01.ExactTexts", spec := "exactTexts", inPlace := ["internal/bytealg.IndexByteString", "internal/bytealg.IndexString"], unfollowed := true, recurses := true, named := ["math/bits.overflowError", "unicode/utf8.first", "unicode/utf8.acceptRanges", "internal/bytealg.MaxLen"], apart := false, laid := [("unicode/utf8.acceptRanges", laid_unicode_utf8_acceptRanges), ("unicode/utf8.first", laid_unicode_utf8_first)], narrowed := true }
def ExactTextsUptoSaid : Prop := exactTextsUptoRow.holds Tryd.pinned (OpenSpec.upto exactTextsSpec)

/-- 'waveplatelaw01.ExactSets', WHERE WHAT IT READS IS OF BULK AT MOST 1048576: true; the input reads as it did. -/
def exactSetsUptoRow : OpenClaim := { program := "ytjmceapnhmeflaadoor", sum := "6493296cc4878f72972c22be3a5d41e05b4de8974f976dd21ece30a69f7fc0fe", func := "waveplate/waveplatelaw01.ExactSets", spec := "exactSets", inPlace := ["internal/bytealg.IndexByteString", "internal/bytealg.IndexString"], unfollowed := true, recurses := true, named := ["math/bits.overflowError", "unicode/utf8.first", "unicode/utf8.acceptRanges", "internal/bytealg.MaxLen"], apart := false, laid := [("unicode/utf8.acceptRanges", laid_unicode_utf8_acceptRanges), ("unicode/utf8.first", laid_unicode_utf8_first)], narrowed := true }
def ExactSetsUptoSaid : Prop := exactSetsUptoRow.holds Tryd.pinned (OpenSpec.upto exactSetsSpec)

/-- 'waveplatelaw01.ExactPascal', WHERE WHAT IT READS IS OF BULK AT MOST 1048576: true; the input reads as it did. -/
def exactPascalUptoRow : OpenClaim := { program := "ytjmceapnhmeflaadoor", sum := "6493296cc4878f72972c22be3a5d41e05b4de8974f976dd21ece30a69f7fc0fe", func := "waveplate/waveplatelaw01.ExactPascal", spec := "exactPascal", inPlace := ["internal/bytealg.IndexByteString", "internal/bytealg.IndexString"], unfollowed := true, recurses := true, named := ["math/bits.overflowError", "unicode/utf8.first", "unicode/utf8.acceptRanges", "internal/bytealg.MaxLen"], apart := false, laid := [("unicode/utf8.acceptRanges", laid_unicode_utf8_acceptRanges), ("unicode/utf8.first", laid_unicode_utf8_first)], narrowed := true }
def ExactPascalUptoSaid : Prop := exactPascalUptoRow.holds Tryd.pinned (OpenSpec.upto exactPascalSpec)

/-- 'waveplatelaw01.ExactSampling', WHERE WHAT IT READS IS OF BULK AT MOST 1048576: true; the input reads as it did. -/
def exactSamplingUptoRow : OpenClaim := { program := "ytjmceapnhmeflaadoor", sum := "6493296cc4878f72972c22be3a5d41e05b4de8974f976dd21ece30a69f7fc0fe", func := "waveplate/waveplatelaw01.ExactSampling", spec := "exactSampling", inPlace := ["internal/bytealg.IndexByteString", "internal/bytealg.IndexString"], unfollowed := true, recurses := true, named := ["math/bits.overflowError", "unicode/utf8.first", "unicode/utf8.acceptRanges", "internal/bytealg.MaxLen"], apart := false, laid := [("unicode/utf8.acceptRanges", laid_unicode_utf8_acceptRanges), ("unicode/utf8.first", laid_unicode_utf8_first)], narrowed := true }
def ExactSamplingUptoSaid : Prop := exactSamplingUptoRow.holds Tryd.pinned (OpenSpec.upto exactSamplingSpec)

end Rows
end Go.Proofs.YtjmceapnhmeflaaDoor
