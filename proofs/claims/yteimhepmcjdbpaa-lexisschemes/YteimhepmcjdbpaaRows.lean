/-
  No cell of these rows narrows 'for every input' (looked for: loops, veiled, ifaces, maps, wideKeys, modest, calm, conditions, laid).
  DERIVED. THE GIVEN ROWS OF THIS SEAT. 4 by the template 'for every input the law returns true; each argument reads behind the call as it read before'; 0 by the template 'total and deterministic' (their statements: YteimhepmcjdbpaaTotals.lean).
  GIVEN WITH THE SEED: the statements are not yours to turn. If you find one false, say at which input.
  Laid BY PROGRAM, IN A SANDBOX (cutbox-rows.mjs): the forced cells as the released guide's own fill.sh prints them over the translation e5bd6bc4e38c9b33… (all of the seat's roots in one cut). By AI agents, Wed Nov 11 2026. No macro, syntax, notation, axiom, sorry.
-/
import Derived.Test.YteimhepmcjdbpaaChecked
import GoSem.Claim
import GoSem.ClaimJoined
import GoSem.ClaimMapViews
import Derived.JoinedTies
import Derived.KernelRfl
namespace Go.Proofs.Yteimhepmcjdbpaa
/- THE CELL 'sum', in the pinned program and in every row, IS THE sha256 OF THE DUMP (.gsa) THAT YteimhepmcjdbpaaProg.lean LOADS. Nothing in Lean hashes anything: it is a label: what it is worth is what the hold of that sum in a sandbox is worth. -/
noncomputable def Try.pinned : Pinned := { name := "yteimhepmcjdbpaa", sum := "e5bd6bc4e38c9b333318a292d61a37b683cfdc4004b6a764620664329f594485", checked := Try.checked }
namespace Rows
def none {H : Type} : Left H := { results := [], args := [] }

/-- 'monikerlaw18.LexisPoints': WHATEVER THE INPUT: true; the input reads as it did. -/
def lexisPointsSpec : ChangeSpec := { name := "lexisPoints", fn := fun _ => fun
  | [d1, d2] => { results := [.lit (.bool true)], args := [d1, d2] }
  | _ => none }
def lexisPointsRow : OpenClaim := { program := "yteimhepmcjdbpaa", sum := "e5bd6bc4e38c9b333318a292d61a37b683cfdc4004b6a764620664329f594485", func := "moniker/monikerlaw18.LexisPoints", spec := "lexisPoints", inPlace := ["internal/bytealg.IndexByteString"], apart := false }
def LexisPointsSaid : Prop := lexisPointsRow.holds Try.pinned (OpenSpec.ofChange lexisPointsSpec)

/-- ITS FALSE NEIGHBOUR: 'it returns false'. Refute it at one input. -/
def lexisPointsWrong : ChangeSpec := { name := "lexisPoints", fn := fun _ => fun
  | [d1, d2] => { results := [.lit (.bool false)], args := [d1, d2] }
  | _ => none }
def LexisPointsWrongFalsely : Prop := lexisPointsRow.holds Try.pinned (OpenSpec.ofChange lexisPointsWrong)

/-- 'monikerlaw18.LexisBytes': WHATEVER THE INPUT: true; the input reads as it did. -/
def lexisBytesSpec : ChangeSpec := { name := "lexisBytes", fn := fun _ => fun
  | [d1, d2] => { results := [.lit (.bool true)], args := [d1, d2] }
  | _ => none }
def lexisBytesRow : OpenClaim := { program := "yteimhepmcjdbpaa", sum := "e5bd6bc4e38c9b333318a292d61a37b683cfdc4004b6a764620664329f594485", func := "moniker/monikerlaw18.LexisBytes", spec := "lexisBytes", inPlace := ["internal/bytealg.IndexByteString"], apart := false }
def LexisBytesSaid : Prop := lexisBytesRow.holds Try.pinned (OpenSpec.ofChange lexisBytesSpec)

/-- ITS FALSE NEIGHBOUR: 'it returns false'. Refute it at one input. -/
def lexisBytesWrong : ChangeSpec := { name := "lexisBytes", fn := fun _ => fun
  | [d1, d2] => { results := [.lit (.bool false)], args := [d1, d2] }
  | _ => none }
def LexisBytesWrongFalsely : Prop := lexisBytesRow.holds Try.pinned (OpenSpec.ofChange lexisBytesWrong)

/-- 'monikerlaw18.LexisSpans': WHATEVER THE INPUT: true; the input reads as it did. -/
def lexisSpansSpec : ChangeSpec := { name := "lexisSpans", fn := fun _ => fun
  | [d1, d2] => { results := [.lit (.bool true)], args := [d1, d2] }
  | _ => none }
def lexisSpansRow : OpenClaim := { program := "yteimhepmcjdbpaa", sum := "e5bd6bc4e38c9b333318a292d61a37b683cfdc4004b6a764620664329f594485", func := "moniker/monikerlaw18.LexisSpans", spec := "lexisSpans", inPlace := ["internal/bytealg.IndexByteString"], apart := false }
def LexisSpansSaid : Prop := lexisSpansRow.holds Try.pinned (OpenSpec.ofChange lexisSpansSpec)

/-- ITS FALSE NEIGHBOUR: 'it returns false'. Refute it at one input. -/
def lexisSpansWrong : ChangeSpec := { name := "lexisSpans", fn := fun _ => fun
  | [d1, d2] => { results := [.lit (.bool false)], args := [d1, d2] }
  | _ => none }
def LexisSpansWrongFalsely : Prop := lexisSpansRow.holds Try.pinned (OpenSpec.ofChange lexisSpansWrong)

/-- 'monikerlaw18.LexisSchemes': WHATEVER THE INPUT: true; the input reads as it did. -/
def lexisSchemesSpec : ChangeSpec := { name := "lexisSchemes", fn := fun _ => fun
  | [d] => { results := [.lit (.bool true)], args := [d] }
  | _ => none }
def lexisSchemesRow : OpenClaim := { program := "yteimhepmcjdbpaa", sum := "e5bd6bc4e38c9b333318a292d61a37b683cfdc4004b6a764620664329f594485", func := "moniker/monikerlaw18.LexisSchemes", spec := "lexisSchemes", inPlace := ["internal/bytealg.IndexByteString"], apart := false }
def LexisSchemesSaid : Prop := lexisSchemesRow.holds Try.pinned (OpenSpec.ofChange lexisSchemesSpec)

/-- ITS FALSE NEIGHBOUR: 'it returns false'. Refute it at one input. -/
def lexisSchemesWrong : ChangeSpec := { name := "lexisSchemes", fn := fun _ => fun
  | [d] => { results := [.lit (.bool false)], args := [d] }
  | _ => none }
def LexisSchemesWrongFalsely : Prop := lexisSchemesRow.holds Try.pinned (OpenSpec.ofChange lexisSchemesWrong)

/- THE SECOND FORM. 'bulk': how many values and letters a reading holds, each counted each time it is reached (what is shared counts as often as it is met; a slice's spare places count too). A statement '..UptoSaid' is the law's where the arguments, and the package variables that the reading takes, are together of bulk at most 1048576: NARROWER than '..Said'. Prove '..Said' where nothing that the law and all that it calls make is longer than what came in: it says more and counts as full. Else prove '..UptoSaid'. A law counts once. -/
mutual
def uptoBulk {H : Type} : DataW H → Nat
  | .lit (.string bytes) => bytes.length + 1
  | .lit _ => 1
  | .nil => 1
  | .ptr d => uptoBulk d + 1
  | .slice elems spare => uptoBulkAll elems + uptoBulkAll spare + 1
  | .agg parts => uptoBulkAll parts + 1
  | .iface _ d => uptoBulk d + 1
  | .map entries => uptoBulkEntries entries + 1
  | .held _ => 1
def uptoBulkAll {H : Type} : List (DataW H) → Nat
  | [] => 0
  | d :: r => uptoBulk d + uptoBulkAll r
def uptoBulkEntries {H : Type} : List (Lit × DataW H) → Nat
  | [] => 0
  | x :: r => uptoBulkEntry x + uptoBulkEntries r
def uptoBulkEntry {H : Type} : Lit × DataW H → Nat
  | (.string bytes, d) => bytes.length + uptoBulk d + 1
  | (_, d) => uptoBulk d + 1
 end
def uptoSmall : (H : Type) → List (DataW H) → Bool := fun _ ds => decide (uptoBulkAll ds ≤ 1048576)
def OpenSpec.upto (s : _root_.Go.ChangeSpec) : _root_.Go.OpenSpec := { _root_.Go.OpenSpec.ofChange s with cond := some uptoSmall }

/-- 'monikerlaw18.LexisPoints', WHERE WHAT IT READS IS OF BULK AT MOST 1048576: true; the input reads as it did. -/
def lexisPointsUptoRow : OpenClaim := { program := "yteimhepmcjdbpaa", sum := "e5bd6bc4e38c9b333318a292d61a37b683cfdc4004b6a764620664329f594485", func := "moniker/monikerlaw18.LexisPoints", spec := "lexisPoints", inPlace := ["internal/bytealg.IndexByteString"], apart := false, narrowed := true }
def LexisPointsUptoSaid : Prop := lexisPointsUptoRow.holds Try.pinned (OpenSpec.upto lexisPointsSpec)

/-- 'monikerlaw18.LexisBytes', WHERE WHAT IT READS IS OF BULK AT MOST 1048576: true; the input reads as it did. -/
def lexisBytesUptoRow : OpenClaim := { program := "yteimhepmcjdbpaa", sum := "e5bd6bc4e38c9b333318a292d61a37b683cfdc4004b6a764620664329f594485", func := "moniker/monikerlaw18.LexisBytes", spec := "lexisBytes", inPlace := ["internal/bytealg.IndexByteString"], apart := false, narrowed := true }
def LexisBytesUptoSaid : Prop := lexisBytesUptoRow.holds Try.pinned (OpenSpec.upto lexisBytesSpec)

/-- 'monikerlaw18.LexisSpans', WHERE WHAT IT READS IS OF BULK AT MOST 1048576: true; the input reads as it did. -/
def lexisSpansUptoRow : OpenClaim := { program := "yteimhepmcjdbpaa", sum := "e5bd6bc4e38c9b333318a292d61a37b683cfdc4004b6a764620664329f594485", func := "moniker/monikerlaw18.LexisSpans", spec := "lexisSpans", inPlace := ["internal/bytealg.IndexByteString"], apart := false, narrowed := true }
def LexisSpansUptoSaid : Prop := lexisSpansUptoRow.holds Try.pinned (OpenSpec.upto lexisSpansSpec)

/-- 'monikerlaw18.LexisSchemes', WHERE WHAT IT READS IS OF BULK AT MOST 1048576: true; the input reads as it did. -/
def lexisSchemesUptoRow : OpenClaim := { program := "yteimhepmcjdbpaa", sum := "e5bd6bc4e38c9b333318a292d61a37b683cfdc4004b6a764620664329f594485", func := "moniker/monikerlaw18.LexisSchemes", spec := "lexisSchemes", inPlace := ["internal/bytealg.IndexByteString"], apart := false, narrowed := true }
def LexisSchemesUptoSaid : Prop := lexisSchemesUptoRow.holds Try.pinned (OpenSpec.upto lexisSchemesSpec)

end Rows
end Go.Proofs.Yteimhepmcjdbpaa
