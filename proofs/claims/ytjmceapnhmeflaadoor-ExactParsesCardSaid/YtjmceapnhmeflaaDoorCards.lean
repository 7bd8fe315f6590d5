/-
  DERIVED. GIVEN WITH THE SEED: THE CARDS: each row of YtjmceapnhmeflaaDoorRows.lean that lists a variable, with what it lists TIED to the program's text (the seventh form; the later family's looks); each row that meets fmt, with fmt's text TOLD by the authors' own Lean function (tested against real Go, not proved from fmt's source: count such statements apart). THE CARD IS WHAT COUNTS. Prove the row's statement (the work); the ties are given (YtjmceapnhmeflaaDoorTie.lean); close each card by the builder's one call (the guide's Derived/Test/ToyasCard.lean, 'card_holds'). Laid BY PROGRAM, IN A SANDBOX (cutbox-door.mjs). By AI agents, Wed Nov 11 2026. No macro, syntax, notation, axiom, sorry.
-/
import Derived.Test.YtjmceapnhmeflaaDoorRows
import GoSem.ClaimSeven
namespace Go.Proofs.YtjmceapnhmeflaaDoor
namespace Rows

/-- THE TIED CARD OF 'waveplatelaw01.ExactOf'. -/
def exactOfCard : Claim7 := { stood := { row := exactOfRow, standIns := [], harness := (true, "e23bc6a6ba63dba21a613355ad48f8fc762b4c4e1fecb47d96a156b156f7bcc5"), looks := false }, kinds := [], alts := [], laidByText := true, laidKinds := [.data, .pinned], laidTests := true, laidLooks := .later }
def ExactOfCardSaid : Prop := Claim7.holds Tryd.pinned (.plain (OpenSpec.ofChange exactOfSpec)) exactOfCard

/-- THE TIED CARD OF 'waveplatelaw01.ExactParses'. -/
def exactParsesCard : Claim7 := { stood := { row := exactParsesRow, standIns := [], harness := (true, "e23bc6a6ba63dba21a613355ad48f8fc762b4c4e1fecb47d96a156b156f7bcc5"), looks := false }, kinds := [], alts := [], laidByText := true, laidKinds := [.data, .pinned], laidTests := true, laidLooks := .later }
def ExactParsesCardSaid : Prop := Claim7.holds Tryd.pinned (.plain (OpenSpec.ofChange exactParsesSpec)) exactParsesCard

/-- THE TIED CARD OF 'waveplatelaw01.ExactFracs'. -/
def exactFracsCard : Claim7 := { stood := { row := exactFracsRow, standIns := [], harness := (true, "e23bc6a6ba63dba21a613355ad48f8fc762b4c4e1fecb47d96a156b156f7bcc5"), looks := false }, kinds := [], alts := [], laidByText := true, laidKinds := [.data, .pinned], laidTests := true, laidLooks := .later }
def ExactFracsCardSaid : Prop := Claim7.holds Tryd.pinned (.plain (OpenSpec.ofChange exactFracsSpec)) exactFracsCard

/-- THE TIED CARD OF 'waveplatelaw01.ExactCounts'. -/
def exactCountsCard : Claim7 := { stood := { row := exactCountsRow, standIns := [], harness := (true, "e23bc6a6ba63dba21a613355ad48f8fc762b4c4e1fecb47d96a156b156f7bcc5"), looks := false }, kinds := [], alts := [], laidByText := true, laidKinds := [.data, .pinned], laidTests := true, laidLooks := .later }
def ExactCountsCardSaid : Prop := Claim7.holds Tryd.pinned (.plain (OpenSpec.ofChange exactCountsSpec)) exactCountsCard

/-- THE TIED CARD OF 'waveplatelaw01.ExactTails'. -/
def exactTailsCard : Claim7 := { stood := { row := exactTailsRow, standIns := [], harness := (true, "e23bc6a6ba63dba21a613355ad48f8fc762b4c4e1fecb47d96a156b156f7bcc5"), looks := false }, kinds := [], alts := [], laidByText := true, laidKinds := [.data, .pinned], laidTests := true, laidLooks := .later }
def ExactTailsCardSaid : Prop := Claim7.holds Tryd.pinned (.plain (OpenSpec.ofChange exactTailsSpec)) exactTailsCard

/-- THE TIED CARD OF 'waveplatelaw01.ExactBounds'. -/
def exactBoundsCard : Claim7 := { stood := { row := exactBoundsRow, standIns := [], harness := (true, "e23bc6a6ba63dba21a613355ad48f8fc762b4c4e1fecb47d96a156b156f7bcc5"), looks := false }, kinds := [], alts := [], laidByText := true, laidKinds := [.data, .pinned], laidTests := true, laidLooks := .later }
def ExactBoundsCardSaid : Prop := Claim7.holds Tryd.pinned (.plain (OpenSpec.ofChange exactBoundsSpec)) exactBoundsCard

/-- THE TIED CARD OF 'waveplatelaw01.ExactLaws'. -/
def exactLawsCard : Claim7 := { stood := { row := exactLawsRow, standIns := [], harness := (true, "e23bc6a6ba63dba21a613355ad48f8fc762b4c4e1fecb47d96a156b156f7bcc5"), looks := false }, kinds := [], alts := [], laidByText := true, laidKinds := [.data, .pinned], laidTests := true, laidLooks := .later }
def ExactLawsCardSaid : Prop := Claim7.holds Tryd.pinned (.plain (OpenSpec.ofChange exactLawsSpec)) exactLawsCard

/-- THE TIED CARD OF 'waveplatelaw01.ExactTexts'. -/
def exactTextsCard : Claim7 := { stood := { row := exactTextsRow, standIns := [], harness := (true, "e23bc6a6ba63dba21a613355ad48f8fc762b4c4e1fecb47d96a156b156f7bcc5"), looks := false }, kinds := [], alts := [], laidByText := true, laidKinds := [.data, .pinned], laidTests := true, laidLooks := .later }
def ExactTextsCardSaid : Prop := Claim7.holds Tryd.pinned (.plain (OpenSpec.ofChange exactTextsSpec)) exactTextsCard

/-- THE TIED CARD OF 'waveplatelaw01.ExactSets'. -/
def exactSetsCard : Claim7 := { stood := { row := exactSetsRow, standIns := [], harness := (true, "e23bc6a6ba63dba21a613355ad48f8fc762b4c4e1fecb47d96a156b156f7bcc5"), looks := false }, kinds := [], alts := [], laidByText := true, laidKinds := [.data, .pinned], laidTests := true, laidLooks := .later }
def ExactSetsCardSaid : Prop := Claim7.holds Tryd.pinned (.plain (OpenSpec.ofChange exactSetsSpec)) exactSetsCard

/-- THE TIED CARD OF 'waveplatelaw01.ExactPascal'. -/
def exactPascalCard : Claim7 := { stood := { row := exactPascalRow, standIns := [], harness := (true, "e23bc6a6ba63dba21a613355ad48f8fc762b4c4e1fecb47d96a156b156f7bcc5"), looks := false }, kinds := [], alts := [], laidByText := true, laidKinds := [.data, .pinned], laidTests := true, laidLooks := .later }
def ExactPascalCardSaid : Prop := Claim7.holds Tryd.pinned (.plain (OpenSpec.ofChange exactPascalSpec)) exactPascalCard

/-- THE TIED CARD OF 'waveplatelaw01.ExactSampling'. -/
def exactSamplingCard : Claim7 := { stood := { row := exactSamplingRow, standIns := [], harness := (true, "e23bc6a6ba63dba21a613355ad48f8fc762b4c4e1fecb47d96a156b156f7bcc5"), looks := false }, kinds := [], alts := [], laidByText := true, laidKinds := [.data, .pinned], laidTests := true, laidLooks := .later }
def ExactSamplingCardSaid : Prop := Claim7.holds Tryd.pinned (.plain (OpenSpec.ofChange exactSamplingSpec)) exactSamplingCard

/-- THE SECOND FORM's CARD OF 'waveplatelaw01.ExactOf'. -/
def exactOfUptoCard : Claim7 := { stood := { row := exactOfUptoRow, standIns := [], harness := (true, "e23bc6a6ba63dba21a613355ad48f8fc762b4c4e1fecb47d96a156b156f7bcc5"), looks := false }, kinds := [], alts := [], laidByText := true, laidKinds := [.data, .pinned], laidTests := true, laidLooks := .later }
def ExactOfUptoCardSaid : Prop := Claim7.holds Tryd.pinned (.plain (OpenSpec.upto exactOfSpec)) exactOfUptoCard

/-- THE SECOND FORM's CARD OF 'waveplatelaw01.ExactParses'. -/
def exactParsesUptoCard : Claim7 := { stood := { row := exactParsesUptoRow, standIns := [], harness := (true, "e23bc6a6ba63dba21a613355ad48f8fc762b4c4e1fecb47d96a156b156f7bcc5"), looks := false }, kinds := [], alts := [], laidByText := true, laidKinds := [.data, .pinned], laidTests := true, laidLooks := .later }
def ExactParsesUptoCardSaid : Prop := Claim7.holds Tryd.pinned (.plain (OpenSpec.upto exactParsesSpec)) exactParsesUptoCard

/-- THE SECOND FORM's CARD OF 'waveplatelaw01.ExactFracs'. -/
def exactFracsUptoCard : Claim7 := { stood := { row := exactFracsUptoRow, standIns := [], harness := (true, "e23bc6a6ba63dba21a613355ad48f8fc762b4c4e1fecb47d96a156b156f7bcc5"), looks := false }, kinds := [], alts := [], laidByText := true, laidKinds := [.data, .pinned], laidTests := true, laidLooks := .later }
def ExactFracsUptoCardSaid : Prop := Claim7.holds Tryd.pinned (.plain (OpenSpec.upto exactFracsSpec)) exactFracsUptoCard

/-- THE SECOND FORM's CARD OF 'waveplatelaw01.ExactCounts'. -/
def exactCountsUptoCard : Claim7 := { stood := { row := exactCountsUptoRow, standIns := [], harness := (true, "e23bc6a6ba63dba21a613355ad48f8fc762b4c4e1fecb47d96a156b156f7bcc5"), looks := false }, kinds := [], alts := [], laidByText := true, laidKinds := [.data, .pinned], laidTests := true, laidLooks := .later }
def ExactCountsUptoCardSaid : Prop := Claim7.holds Tryd.pinned (.plain (OpenSpec.upto exactCountsSpec)) exactCountsUptoCard

/-- THE SECOND FORM's CARD OF 'waveplatelaw01.ExactTails'. -/
def exactTailsUptoCard : Claim7 := { stood := { row := exactTailsUptoRow, standIns := [], harness := (true, "e23bc6a6ba63dba21a613355ad48f8fc762b4c4e1fecb47d96a156b156f7bcc5"), looks := false }, kinds := [], alts := [], laidByText := true, laidKinds := [.data, .pinned], laidTests := true, laidLooks := .later }
def ExactTailsUptoCardSaid : Prop := Claim7.holds Tryd.pinned (.plain (OpenSpec.upto exactTailsSpec)) exactTailsUptoCard

/-- THE SECOND FORM's CARD OF 'waveplatelaw01.ExactBounds'. -/
def exactBoundsUptoCard : Claim7 := { stood := { row := exactBoundsUptoRow, standIns := [], harness := (true, "e23bc6a6ba63dba21a613355ad48f8fc762b4c4e1fecb47d96a156b156f7bcc5"), looks := false }, kinds := [], alts := [], laidByText := true, laidKinds := [.data, .pinned], laidTests := true, laidLooks := .later }
def ExactBoundsUptoCardSaid : Prop := Claim7.holds Tryd.pinned (.plain (OpenSpec.upto exactBoundsSpec)) exactBoundsUptoCard

/-- THE SECOND FORM's CARD OF 'waveplatelaw01.ExactLaws'. -/
def exactLawsUptoCard : Claim7 := { stood := { row := exactLawsUptoRow, standIns := [], harness := (true, "e23bc6a6ba63dba21a613355ad48f8fc762b4c4e1fecb47d96a156b156f7bcc5"), looks := false }, kinds := [], alts := [], laidByText := true, laidKinds := [.data, .pinned], laidTests := true, laidLooks := .later }
def ExactLawsUptoCardSaid : Prop := Claim7.holds Tryd.pinned (.plain (OpenSpec.upto exactLawsSpec)) exactLawsUptoCard

/-- THE SECOND FORM's CARD OF 'waveplatelaw01.ExactTexts'. -/
def exactTextsUptoCard : Claim7 := { stood := { row := exactTextsUptoRow, standIns := [], harness := (true, "e23bc6a6ba63dba21a613355ad48f8fc762b4c4e1fecb47d96a156b156f7bcc5"), looks := false }, kinds := [], alts := [], laidByText := true, laidKinds := [.data, .pinned], laidTests := true, laidLooks := .later }
def ExactTextsUptoCardSaid : Prop := Claim7.holds Tryd.pinned (.plain (OpenSpec.upto exactTextsSpec)) exactTextsUptoCard

/-- THE SECOND FORM's CARD OF 'waveplatelaw01.ExactSets'. -/
def exactSetsUptoCard : Claim7 := { stood := { row := exactSetsUptoRow, standIns := [], harness := (true, "e23bc6a6ba63dba21a613355ad48f8fc762b4c4e1fecb47d96a156b156f7bcc5"), looks := false }, kinds := [], alts := [], laidByText := true, laidKinds := [.data, .pinned], laidTests := true, laidLooks := .later }
def ExactSetsUptoCardSaid : Prop := Claim7.holds Tryd.pinned (.plain (OpenSpec.upto exactSetsSpec)) exactSetsUptoCard

/-- THE SECOND FORM's CARD OF 'waveplatelaw01.ExactPascal'. -/
def exactPascalUptoCard : Claim7 := { stood := { row := exactPascalUptoRow, standIns := [], harness := (true, "e23bc6a6ba63dba21a613355ad48f8fc762b4c4e1fecb47d96a156b156f7bcc5"), looks := false }, kinds := [], alts := [], laidByText := true, laidKinds := [.data, .pinned], laidTests := true, laidLooks := .later }
def ExactPascalUptoCardSaid : Prop := Claim7.holds Tryd.pinned (.plain (OpenSpec.upto exactPascalSpec)) exactPascalUptoCard

/-- THE SECOND FORM's CARD OF 'waveplatelaw01.ExactSampling'. -/
def exactSamplingUptoCard : Claim7 := { stood := { row := exactSamplingUptoRow, standIns := [], harness := (true, "e23bc6a6ba63dba21a613355ad48f8fc762b4c4e1fecb47d96a156b156f7bcc5"), looks := false }, kinds := [], alts := [], laidByText := true, laidKinds := [.data, .pinned], laidTests := true, laidLooks := .later }
def ExactSamplingUptoCardSaid : Prop := Claim7.holds Tryd.pinned (.plain (OpenSpec.upto exactSamplingSpec)) exactSamplingUptoCard
end Rows
end Go.Proofs.YtjmceapnhmeflaaDoor
