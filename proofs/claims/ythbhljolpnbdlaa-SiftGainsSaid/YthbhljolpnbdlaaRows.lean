/-
  No cell of these rows narrows 'for every input' (looked for: loops, veiled, ifaces, maps, wideKeys, modest, calm, conditions, laid).
  DERIVED. THE GIVEN ROWS OF THIS SEAT. 8 by the template 'for every input the law returns true; each argument reads behind the call as it read before'; 0 by the template 'total and deterministic' (their statements: YthbhljolpnbdlaaTotals.lean).
  GIVEN WITH THE SEED: the statements are not yours to turn. If you find one false, say at which input.
  Laid BY PROGRAM, IN A SANDBOX (cutbox-rows.mjs): the forced cells as the released guide's own fill.sh prints them over the translation ade75f90f336c461… (all of the seat's roots in one cut). By AI agents, Wed Nov 11 2026. No macro, syntax, notation, axiom, sorry.
-/
import Derived.Test.YthbhljolpnbdlaaChecked
import GoSem.Claim
import GoSem.ClaimJoined
import GoSem.ClaimMapViews
import Derived.JoinedTies
import Derived.KernelRfl
namespace Go.Proofs.Ythbhljolpnbdlaa
/- THE CELL 'sum', in the pinned program and in every row, IS THE sha256 OF THE DUMP (.gsa) THAT YthbhljolpnbdlaaProg.lean LOADS. Nothing in Lean hashes anything: it is a label: what it is worth is what the hold of that sum in a sandbox is worth. -/
noncomputable def Try.pinned : Pinned := { name := "ythbhljolpnbdlaa", sum := "ade75f90f336c4615abfab236ed7e9f570e8d2fc72e42c0757d62a5e46e11ccc", checked := Try.checked }
namespace Rows
def none {H : Type} : Left H := { results := [], args := [] }

/-- 'waveplatelaw04.SiftAligns': WHATEVER THE INPUT: true; the input reads as it did. -/
def siftAlignsSpec : ChangeSpec := { name := "siftAligns", fn := fun _ => fun
  | [d1, d2, d3, d4] => { results := [.lit (.bool true)], args := [d1, d2, d3, d4] }
  | _ => none }
def siftAlignsRow : OpenClaim := { program := "ythbhljolpnbdlaa", sum := "ade75f90f336c4615abfab236ed7e9f570e8d2fc72e42c0757d62a5e46e11ccc", func := "waveplate/waveplatelaw04.SiftAligns", spec := "siftAligns", unfollowed := true, recurses := true, apart := false }
def SiftAlignsSaid : Prop := siftAlignsRow.holds Try.pinned (OpenSpec.ofChange siftAlignsSpec)

/-- ITS FALSE NEIGHBOUR: 'it returns false'. Refute it at one input. -/
def siftAlignsWrong : ChangeSpec := { name := "siftAligns", fn := fun _ => fun
  | [d1, d2, d3, d4] => { results := [.lit (.bool false)], args := [d1, d2, d3, d4] }
  | _ => none }
def SiftAlignsWrongFalsely : Prop := siftAlignsRow.holds Try.pinned (OpenSpec.ofChange siftAlignsWrong)

/-- 'waveplatelaw04.SiftAnnounces': WHATEVER THE INPUT: true; the input reads as it did. -/
def siftAnnouncesSpec : ChangeSpec := { name := "siftAnnounces", fn := fun _ => fun
  | [d1, d2] => { results := [.lit (.bool true)], args := [d1, d2] }
  | _ => none }
def siftAnnouncesRow : OpenClaim := { program := "ythbhljolpnbdlaa", sum := "ade75f90f336c4615abfab236ed7e9f570e8d2fc72e42c0757d62a5e46e11ccc", func := "waveplate/waveplatelaw04.SiftAnnounces", spec := "siftAnnounces", unfollowed := true, recurses := true, apart := false }
def SiftAnnouncesSaid : Prop := siftAnnouncesRow.holds Try.pinned (OpenSpec.ofChange siftAnnouncesSpec)

/-- ITS FALSE NEIGHBOUR: 'it returns false'. Refute it at one input. -/
def siftAnnouncesWrong : ChangeSpec := { name := "siftAnnounces", fn := fun _ => fun
  | [d1, d2] => { results := [.lit (.bool false)], args := [d1, d2] }
  | _ => none }
def SiftAnnouncesWrongFalsely : Prop := siftAnnouncesRow.holds Try.pinned (OpenSpec.ofChange siftAnnouncesWrong)

/-- 'waveplatelaw04.SiftMatches': WHATEVER THE INPUT: true; the input reads as it did. -/
def siftMatchesSpec : ChangeSpec := { name := "siftMatches", fn := fun _ => fun
  | [d1, d2, d3] => { results := [.lit (.bool true)], args := [d1, d2, d3] }
  | _ => none }
def siftMatchesRow : OpenClaim := { program := "ythbhljolpnbdlaa", sum := "ade75f90f336c4615abfab236ed7e9f570e8d2fc72e42c0757d62a5e46e11ccc", func := "waveplate/waveplatelaw04.SiftMatches", spec := "siftMatches", unfollowed := true, recurses := true, apart := false }
def SiftMatchesSaid : Prop := siftMatchesRow.holds Try.pinned (OpenSpec.ofChange siftMatchesSpec)

/-- ITS FALSE NEIGHBOUR: 'it returns false'. Refute it at one input. -/
def siftMatchesWrong : ChangeSpec := { name := "siftMatches", fn := fun _ => fun
  | [d1, d2, d3] => { results := [.lit (.bool false)], args := [d1, d2, d3] }
  | _ => none }
def SiftMatchesWrongFalsely : Prop := siftMatchesRow.holds Try.pinned (OpenSpec.ofChange siftMatchesWrong)

/-- 'waveplatelaw04.SiftSlots': WHATEVER THE INPUT: true; the input reads as it did. -/
def siftSlotsSpec : ChangeSpec := { name := "siftSlots", fn := fun _ => fun
  | [d] => { results := [.lit (.bool true)], args := [d] }
  | _ => none }
def siftSlotsRow : OpenClaim := { program := "ythbhljolpnbdlaa", sum := "ade75f90f336c4615abfab236ed7e9f570e8d2fc72e42c0757d62a5e46e11ccc", func := "waveplate/waveplatelaw04.SiftSlots", spec := "siftSlots", unfollowed := true, recurses := true, apart := false }
def SiftSlotsSaid : Prop := siftSlotsRow.holds Try.pinned (OpenSpec.ofChange siftSlotsSpec)

/-- ITS FALSE NEIGHBOUR: 'it returns false'. Refute it at one input. -/
def siftSlotsWrong : ChangeSpec := { name := "siftSlots", fn := fun _ => fun
  | [d] => { results := [.lit (.bool false)], args := [d] }
  | _ => none }
def SiftSlotsWrongFalsely : Prop := siftSlotsRow.holds Try.pinned (OpenSpec.ofChange siftSlotsWrong)

/-- 'waveplatelaw04.SiftSpied': WHATEVER THE INPUT: true; the input reads as it did. -/
def siftSpiedSpec : ChangeSpec := { name := "siftSpied", fn := fun _ => fun
  | [d1, d2, d3] => { results := [.lit (.bool true)], args := [d1, d2, d3] }
  | _ => none }
def siftSpiedRow : OpenClaim := { program := "ythbhljolpnbdlaa", sum := "ade75f90f336c4615abfab236ed7e9f570e8d2fc72e42c0757d62a5e46e11ccc", func := "waveplate/waveplatelaw04.SiftSpied", spec := "siftSpied", unfollowed := true, recurses := true, apart := false }
def SiftSpiedSaid : Prop := siftSpiedRow.holds Try.pinned (OpenSpec.ofChange siftSpiedSpec)

/-- ITS FALSE NEIGHBOUR: 'it returns false'. Refute it at one input. -/
def siftSpiedWrong : ChangeSpec := { name := "siftSpied", fn := fun _ => fun
  | [d1, d2, d3] => { results := [.lit (.bool false)], args := [d1, d2, d3] }
  | _ => none }
def SiftSpiedWrongFalsely : Prop := siftSpiedRow.holds Try.pinned (OpenSpec.ofChange siftSpiedWrong)

/-- 'waveplatelaw04.SiftGains': WHATEVER THE INPUT: true; the input reads as it did. -/
def siftGainsSpec : ChangeSpec := { name := "siftGains", fn := fun _ => fun
  | [d] => { results := [.lit (.bool true)], args := [d] }
  | _ => none }
def siftGainsRow : OpenClaim := { program := "ythbhljolpnbdlaa", sum := "ade75f90f336c4615abfab236ed7e9f570e8d2fc72e42c0757d62a5e46e11ccc", func := "waveplate/waveplatelaw04.SiftGains", spec := "siftGains", unfollowed := true, recurses := true, apart := false }
def SiftGainsSaid : Prop := siftGainsRow.holds Try.pinned (OpenSpec.ofChange siftGainsSpec)

/-- ITS FALSE NEIGHBOUR: 'it returns false'. Refute it at one input. -/
def siftGainsWrong : ChangeSpec := { name := "siftGains", fn := fun _ => fun
  | [d] => { results := [.lit (.bool false)], args := [d] }
  | _ => none }
def SiftGainsWrongFalsely : Prop := siftGainsRow.holds Try.pinned (OpenSpec.ofChange siftGainsWrong)

/-- 'waveplatelaw04.SiftBlocks': WHATEVER THE INPUT: true; the input reads as it did. -/
def siftBlocksSpec : ChangeSpec := { name := "siftBlocks", fn := fun _ => fun
  | [d1, d2, d3] => { results := [.lit (.bool true)], args := [d1, d2, d3] }
  | _ => none }
def siftBlocksRow : OpenClaim := { program := "ythbhljolpnbdlaa", sum := "ade75f90f336c4615abfab236ed7e9f570e8d2fc72e42c0757d62a5e46e11ccc", func := "waveplate/waveplatelaw04.SiftBlocks", spec := "siftBlocks", unfollowed := true, recurses := true, apart := false }
def SiftBlocksSaid : Prop := siftBlocksRow.holds Try.pinned (OpenSpec.ofChange siftBlocksSpec)

/-- ITS FALSE NEIGHBOUR: 'it returns false'. Refute it at one input. -/
def siftBlocksWrong : ChangeSpec := { name := "siftBlocks", fn := fun _ => fun
  | [d1, d2, d3] => { results := [.lit (.bool false)], args := [d1, d2, d3] }
  | _ => none }
def SiftBlocksWrongFalsely : Prop := siftBlocksRow.holds Try.pinned (OpenSpec.ofChange siftBlocksWrong)

/-- 'waveplatelaw04.SiftRates': WHATEVER THE INPUT: true; the input reads as it did. -/
def siftRatesSpec : ChangeSpec := { name := "siftRates", fn := fun _ => fun
  | [d1, d2, d3] => { results := [.lit (.bool true)], args := [d1, d2, d3] }
  | _ => none }
def siftRatesRow : OpenClaim := { program := "ythbhljolpnbdlaa", sum := "ade75f90f336c4615abfab236ed7e9f570e8d2fc72e42c0757d62a5e46e11ccc", func := "waveplate/waveplatelaw04.SiftRates", spec := "siftRates", unfollowed := true, recurses := true, named := ["math/bits.overflowError"], apart := false }
def SiftRatesSaid : Prop := siftRatesRow.holds Try.pinned (OpenSpec.ofChange siftRatesSpec)

/-- ITS FALSE NEIGHBOUR: 'it returns false'. Refute it at one input. -/
def siftRatesWrong : ChangeSpec := { name := "siftRates", fn := fun _ => fun
  | [d1, d2, d3] => { results := [.lit (.bool false)], args := [d1, d2, d3] }
  | _ => none }
def SiftRatesWrongFalsely : Prop := siftRatesRow.holds Try.pinned (OpenSpec.ofChange siftRatesWrong)

/- THE SECOND FORM. 'bulk': how many values and letters a reading holds, each counted each time it is reached (what is shared counts as often as it is met; a slice's spare places count too). A statement '..UptoSaid' is the law's where the arguments, and the package variables that the reading takes, are together of bulk at most 1048576: NARROWER than '..Said'. Prove '..Said' where nothing that the law and all that it calls make is longer than what came in: it says more and counts as full. Else prove '..UptoSaid'. A law counts once. -/
mutual
def uptoBulk {H : Type} : DataW H → Nat
  | .lit (.string bytes) => bytes.length + 1
  | .lit _ => 1
  | .nil => 1
  | .ptr d => uptoBulk d + 1
  | .slice elems spare => uptoBulkAll elems + uptoBulkAll spare + 1
  | .agg parts => uptoBulkAll parts + 1
  | .iface _ d => uptoBulk d + 1
  | .map entries => uptoBulkEntries entries + 1
  | .held _ => 1
def uptoBulkAll {H : Type} : List (DataW H) → Nat
  | [] => 0
  | d :: r => uptoBulk d + uptoBulkAll r
def uptoBulkEntries {H : Type} : List (Lit × DataW H) → Nat
  | [] => 0
  | x :: r => uptoBulkEntry x + uptoBulkEntries r
def uptoBulkEntry {H : Type} : Lit × DataW H → Nat
  | (.string bytes, d) => bytes.length + uptoBulk d + 1
  | (_, d) => uptoBulk d + 1
 end
def uptoSmall : (H : Type) → List (DataW H) → Bool := fun _ ds => decide (uptoBulkAll ds ≤ 1048576)
def OpenSpec.upto (s : _root_.Go.ChangeSpec) : _root_.Go.OpenSpec := { _root_.Go.OpenSpec.ofChange s with cond := some uptoSmall }

/-- 'waveplatelaw04.SiftAligns', WHERE WHAT IT READS IS OF BULK AT MOST 1048576: true; the input reads as it did. -/
def siftAlignsUptoRow : OpenClaim := { program := "ythbhljolpnbdlaa", sum := "ade75f90f336c4615abfab236ed7e9f570e8d2fc72e42c0757d62a5e46e11ccc", func := "waveplate/waveplatelaw04.SiftAligns", spec := "siftAligns", unfollowed := true, recurses := true, apart := false, narrowed := true }
def SiftAlignsUptoSaid : Prop := siftAlignsUptoRow.holds Try.pinned (OpenSpec.upto siftAlignsSpec)

/-- 'waveplatelaw04.SiftAnnounces', WHERE WHAT IT READS IS OF BULK AT MOST 1048576: true; the input reads as it did. -/
def siftAnnouncesUptoRow : OpenClaim := { program := "ythbhljolpnbdlaa", sum := "ade75f90f336c4615abfab236ed7e9f570e8d2fc72e42c0757d62a5e46e11ccc", func := "waveplate/waveplatelaw04.SiftAnnounces", spec := "siftAnnounces", unfollowed := true, recurses := true, apart := false, narrowed := true }
def SiftAnnouncesUptoSaid : Prop := siftAnnouncesUptoRow.holds Try.pinned (OpenSpec.upto siftAnnouncesSpec)

/-- 'waveplatelaw04.SiftMatches', WHERE WHAT IT READS IS OF BULK AT MOST 1048576: true; the input reads as it did. -/
def siftMatchesUptoRow : OpenClaim := { program := "ythbhljolpnbdlaa", sum := "ade75f90f336c4615abfab236ed7e9f570e8d2fc72e42c0757d62a5e46e11ccc", func := "waveplate/waveplatelaw04.SiftMatches", spec := "siftMatches", unfollowed := true, recurses := true, apart := false, narrowed := true }
def SiftMatchesUptoSaid : Prop := siftMatchesUptoRow.holds Try.pinned (OpenSpec.upto siftMatchesSpec)

/-- 'waveplatelaw04.SiftSlots', WHERE WHAT IT READS IS OF BULK AT MOST 1048576: true; the input reads as it did. -/
def siftSlotsUptoRow : OpenClaim := { program := "ythbhljolpnbdlaa", sum := "ade75f90f336c4615abfab236ed7e9f570e8d2fc72e42c0757d62a5e46e11ccc", func := "waveplate/waveplatelaw04.SiftSlots", spec := "siftSlots", unfollowed := true, recurses := true, apart := false, narrowed := true }
def SiftSlotsUptoSaid : Prop := siftSlotsUptoRow.holds Try.pinned (OpenSpec.upto siftSlotsSpec)

/-- 'waveplatelaw04.SiftSpied', WHERE WHAT IT READS IS OF BULK AT MOST 1048576: true; the input reads as it did. -/
def siftSpiedUptoRow : OpenClaim := { program := "ythbhljolpnbdlaa", sum := "ade75f90f336c4615abfab236ed7e9f570e8d2fc72e42c0757d62a5e46e11ccc", func := "waveplate/waveplatelaw04.SiftSpied", spec := "siftSpied", unfollowed := true, recurses := true, apart := false, narrowed := true }
def SiftSpiedUptoSaid : Prop := siftSpiedUptoRow.holds Try.pinned (OpenSpec.upto siftSpiedSpec)

/-- 'waveplatelaw04.SiftGains', WHERE WHAT IT READS IS OF BULK AT MOST 1048576: true; the input reads as it did. -/
def siftGainsUptoRow : OpenClaim := { program := "ythbhljolpnbdlaa", sum := "ade75f90f336c4615abfab236ed7e9f570e8d2fc72e42c0757d62a5e46e11ccc", func := "waveplate/waveplatelaw04.SiftGains", spec := "siftGains", unfollowed := true, recurses := true, apart := false, narrowed := true }
def SiftGainsUptoSaid : Prop := siftGainsUptoRow.holds Try.pinned (OpenSpec.upto siftGainsSpec)

/-- 'waveplatelaw04.SiftBlocks', WHERE WHAT IT READS IS OF BULK AT MOST 1048576: true; the input reads as it did. -/
def siftBlocksUptoRow : OpenClaim := { program := "ythbhljolpnbdlaa", sum := "ade75f90f336c4615abfab236ed7e9f570e8d2fc72e42c0757d62a5e46e11ccc", func := "waveplate/waveplatelaw04.SiftBlocks", spec := "siftBlocks", unfollowed := true, recurses := true, apart := false, narrowed := true }
def SiftBlocksUptoSaid : Prop := siftBlocksUptoRow.holds Try.pinned (OpenSpec.upto siftBlocksSpec)

/-- 'waveplatelaw04.SiftRates', WHERE WHAT IT READS IS OF BULK AT MOST 1048576: true; the input reads as it did. -/
def siftRatesUptoRow : OpenClaim := { program := "ythbhljolpnbdlaa", sum := "ade75f90f336c4615abfab236ed7e9f570e8d2fc72e42c0757d62a5e46e11ccc", func := "waveplate/waveplatelaw04.SiftRates", spec := "siftRates", unfollowed := true, recurses := true, named := ["math/bits.overflowError"], apart := false, narrowed := true }
def SiftRatesUptoSaid : Prop := siftRatesUptoRow.holds Try.pinned (OpenSpec.upto siftRatesSpec)

end Rows
end Go.Proofs.Ythbhljolpnbdlaa
