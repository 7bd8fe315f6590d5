/-
  DERIVED. GIVEN WITH THE SEED: THE CARDS: each row of YtpkeneadkiabiabDoorRows.lean that lists a variable, with what it lists TIED to the program's text (the seventh form; the later family's looks); each row that meets fmt, with fmt's text TOLD by the authors' own Lean function (tested against real Go, not proved from fmt's source: count such statements apart). THE CARD IS WHAT COUNTS. Prove the row's statement (the work); the ties are given (YtpkeneadkiabiabDoorTie.lean); close each card by the builder's one call (the guide's Derived/Test/ToyasCard.lean, 'card_holds'). Laid BY PROGRAM, IN A SANDBOX (cutbox-door.mjs). By AI agents, Wed Nov 11 2026. No macro, syntax, notation, axiom, sorry.
-/
import Derived.Test.YtpkeneadkiabiabDoorRows
import GoSem.ClaimSeven
namespace Go.Proofs.YtpkeneadkiabiabDoor
namespace Rows

/-- THE TIED CARD OF 'waveplatelaw01.ExactMonotone'. -/
def exactMonotoneCard : Claim7 := { stood := { row := exactMonotoneRow, standIns := [], harness := (true, "c11f01c60261a0ff8718e544327a44138b9bb578ee4abb536a59ef2703fec9c5"), looks := false }, kinds := [], alts := [], laidByText := true, laidKinds := [.data, .pinned], laidTests := true, laidLooks := .later }
def ExactMonotoneCardSaid : Prop := Claim7.holds Tryd.pinned (.plain (OpenSpec.ofChange exactMonotoneSpec)) exactMonotoneCard

/-- THE TIED CARD OF 'waveplatelaw01.ExactExcludes'. -/
def exactExcludesCard : Claim7 := { stood := { row := exactExcludesRow, standIns := [], harness := (true, "c11f01c60261a0ff8718e544327a44138b9bb578ee4abb536a59ef2703fec9c5"), looks := false }, kinds := [], alts := [], laidByText := true, laidKinds := [.data, .pinned], laidTests := true, laidLooks := .later }
def ExactExcludesCardSaid : Prop := Claim7.holds Tryd.pinned (.plain (OpenSpec.ofChange exactExcludesSpec)) exactExcludesCard

/-- THE SECOND FORM's CARD OF 'waveplatelaw01.ExactMonotone'. -/
def exactMonotoneUptoCard : Claim7 := { stood := { row := exactMonotoneUptoRow, standIns := [], harness := (true, "c11f01c60261a0ff8718e544327a44138b9bb578ee4abb536a59ef2703fec9c5"), looks := false }, kinds := [], alts := [], laidByText := true, laidKinds := [.data, .pinned], laidTests := true, laidLooks := .later }
def ExactMonotoneUptoCardSaid : Prop := Claim7.holds Tryd.pinned (.plain (OpenSpec.upto exactMonotoneSpec)) exactMonotoneUptoCard

/-- THE SECOND FORM's CARD OF 'waveplatelaw01.ExactExcludes'. -/
def exactExcludesUptoCard : Claim7 := { stood := { row := exactExcludesUptoRow, standIns := [], harness := (true, "c11f01c60261a0ff8718e544327a44138b9bb578ee4abb536a59ef2703fec9c5"), looks := false }, kinds := [], alts := [], laidByText := true, laidKinds := [.data, .pinned], laidTests := true, laidLooks := .later }
def ExactExcludesUptoCardSaid : Prop := Claim7.holds Tryd.pinned (.plain (OpenSpec.upto exactExcludesSpec)) exactExcludesUptoCard
end Rows
end Go.Proofs.YtpkeneadkiabiabDoor
