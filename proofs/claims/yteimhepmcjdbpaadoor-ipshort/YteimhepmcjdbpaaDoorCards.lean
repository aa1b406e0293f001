/-
  DERIVED. GIVEN WITH THE SEED: THE CARDS: each row of YteimhepmcjdbpaaDoorRows.lean that lists a variable, with what it lists TIED to the program's text (the seventh form; the later family's looks); each row that meets fmt, with fmt's text TOLD by the authors' own Lean function (tested against real Go, not proved from fmt's source: count such statements apart). THE CARD IS WHAT COUNTS. Prove the row's statement (the work); the ties are given (YteimhepmcjdbpaaDoorTie.lean); close each card by the builder's one call (the guide's Derived/Test/ToyasCard.lean, 'card_holds'). Laid BY PROGRAM, IN A SANDBOX (cutbox-door.mjs). By AI agents, Wed Nov 11 2026. No macro, syntax, notation, axiom, sorry.
-/
import Derived.Test.YteimhepmcjdbpaaDoorRows
import GoSem.ClaimSeven
namespace Go.Proofs.YteimhepmcjdbpaaDoor
namespace Rows

/-- THE TIED CARD OF 'monikerlaw19.IpShort'. -/
def ipShortCard : Claim7 := { stood := { row := ipShortRow, standIns := [], harness := (true, "98eecd0bbb2b88ec44d5fd7e894df014087ec9e178a375ecaf6bc24aa737661b"), looks := true }, kinds := [], alts := [], laidByText := true, laidKinds := [.data, .data, .data, .sentinel, .sentinel], laidTests := true, laidLooks := .later }
def IpShortCardSaid : Prop := Claim7.holds Tryd.pinned (.plain (OpenSpec.ofChange ipShortSpec)) ipShortCard

/-- THE SECOND FORM's CARD OF 'monikerlaw19.IpShort'. -/
def ipShortUptoCard : Claim7 := { stood := { row := ipShortUptoRow, standIns := [], harness := (true, "98eecd0bbb2b88ec44d5fd7e894df014087ec9e178a375ecaf6bc24aa737661b"), looks := true }, kinds := [], alts := [], laidByText := true, laidKinds := [.data, .data, .data, .sentinel, .sentinel], laidTests := true, laidLooks := .later }
def IpShortUptoCardSaid : Prop := Claim7.holds Tryd.pinned (.plain (OpenSpec.upto ipShortSpec)) ipShortUptoCard
end Rows
end Go.Proofs.YteimhepmcjdbpaaDoor
