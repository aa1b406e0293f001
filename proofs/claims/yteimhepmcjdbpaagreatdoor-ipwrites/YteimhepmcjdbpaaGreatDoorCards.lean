/-
  DERIVED. GIVEN WITH THE SEED: THE CARDS: each row of YteimhepmcjdbpaaGreatDoorRows.lean that lists a variable, with what it lists TIED to the program's text (the seventh form; the later family's looks); each row that meets fmt, with fmt's text TOLD by the authors' own Lean function (tested against real Go, not proved from fmt's source: count such statements apart). THE CARD IS WHAT COUNTS. Prove the row's statement (the work); the ties are given (YteimhepmcjdbpaaGreatDoorTie.lean); close each card by the builder's one call (the guide's Derived/Test/ToyasCard.lean, 'card_holds'). Laid BY PROGRAM, IN A SANDBOX (cutbox-door.mjs). By AI agents, Wed Nov 11 2026. No macro, syntax, notation, axiom, sorry.
-/
import Derived.Test.YteimhepmcjdbpaaGreatDoorRows
import GoSem.ClaimSeven
namespace Go.Proofs.YteimhepmcjdbpaaGreatDoor
namespace Rows

/-- THE TIED CARD OF 'monikerlaw19.IpReads'. -/
def ipReadsCard : Claim7 := { stood := { row := ipReadsRow, standIns := [], harness := (true, "95bd87c652bd2167e950c266a3ac10a81be2466dcd80aa03412fa02dcff9c5fe"), looks := true }, kinds := [], alts := [], laidByText := true, laidKinds := [.data, .data, .data, .sentinel, .sentinel], laidTests := true, laidLooks := .later }
def IpReadsCardSaid : Prop := Claim7.holds Tryz.pinned (.plain (OpenSpec.ofChange ipReadsSpec)) ipReadsCard

/-- THE TIED CARD OF 'monikerlaw19.IpHosts'. -/
def ipHostsCard : Claim7 := { stood := { row := ipHostsRow, standIns := [], harness := (true, "95bd87c652bd2167e950c266a3ac10a81be2466dcd80aa03412fa02dcff9c5fe"), looks := true }, kinds := [], alts := [], laidByText := true, laidKinds := [.data, .data, .data, .sentinel, .sentinel], laidTests := true, laidLooks := .later }
def IpHostsCardSaid : Prop := Claim7.holds Tryz.pinned (.plain (OpenSpec.ofChange ipHostsSpec)) ipHostsCard

/-- THE TIED CARD OF 'monikerlaw19.IpWrites'. -/
def ipWritesCard : Claim7 := { stood := { row := ipWritesRow, standIns := [], harness := (true, "95bd87c652bd2167e950c266a3ac10a81be2466dcd80aa03412fa02dcff9c5fe"), looks := true }, kinds := [], alts := [], laidByText := true, laidKinds := [.data, .data, .data, .sentinel, .sentinel], laidTests := true, laidLooks := .later }
def IpWritesCardSaid : Prop := Claim7.holds Tryz.pinned (.plain (OpenSpec.ofChange ipWritesSpec)) ipWritesCard

/-- THE SECOND FORM's CARD OF 'monikerlaw19.IpReads'. -/
def ipReadsUptoCard : Claim7 := { stood := { row := ipReadsUptoRow, standIns := [], harness := (true, "95bd87c652bd2167e950c266a3ac10a81be2466dcd80aa03412fa02dcff9c5fe"), looks := true }, kinds := [], alts := [], laidByText := true, laidKinds := [.data, .data, .data, .sentinel, .sentinel], laidTests := true, laidLooks := .later }
def IpReadsUptoCardSaid : Prop := Claim7.holds Tryz.pinned (.plain (OpenSpec.upto ipReadsSpec)) ipReadsUptoCard

/-- THE SECOND FORM's CARD OF 'monikerlaw19.IpHosts'. -/
def ipHostsUptoCard : Claim7 := { stood := { row := ipHostsUptoRow, standIns := [], harness := (true, "95bd87c652bd2167e950c266a3ac10a81be2466dcd80aa03412fa02dcff9c5fe"), looks := true }, kinds := [], alts := [], laidByText := true, laidKinds := [.data, .data, .data, .sentinel, .sentinel], laidTests := true, laidLooks := .later }
def IpHostsUptoCardSaid : Prop := Claim7.holds Tryz.pinned (.plain (OpenSpec.upto ipHostsSpec)) ipHostsUptoCard

/-- THE SECOND FORM's CARD OF 'monikerlaw19.IpWrites'. -/
def ipWritesUptoCard : Claim7 := { stood := { row := ipWritesUptoRow, standIns := [], harness := (true, "95bd87c652bd2167e950c266a3ac10a81be2466dcd80aa03412fa02dcff9c5fe"), looks := true }, kinds := [], alts := [], laidByText := true, laidKinds := [.data, .data, .data, .sentinel, .sentinel], laidTests := true, laidLooks := .later }
def IpWritesUptoCardSaid : Prop := Claim7.holds Tryz.pinned (.plain (OpenSpec.upto ipWritesSpec)) ipWritesUptoCard
end Rows
end Go.Proofs.YteimhepmcjdbpaaGreatDoor
