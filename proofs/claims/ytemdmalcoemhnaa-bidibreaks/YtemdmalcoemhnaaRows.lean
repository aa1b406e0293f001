/-
  No cell of these rows narrows 'for every input' (looked for: loops, veiled, ifaces, maps, wideKeys, modest, calm, conditions, laid).
  DERIVED. THE GIVEN ROWS OF THIS SEAT. 3 by the template 'for every input the law returns true; each argument reads behind the call as it read before'; 0 by the template 'total and deterministic' (their statements: YtemdmalcoemhnaaTotals.lean).
  GIVEN WITH THE SEED: the statements are not yours to turn. If you find one false, say at which input.
  Laid BY PROGRAM, IN A SANDBOX (cutbox-rows.mjs): the forced cells as the released guide's own fill.sh prints them over the translation 30cd573ecaccae6b… (all of the seat's roots in one cut). By AI agents, Wed Nov 11 2026. No macro, syntax, notation, axiom, sorry.
-/
import Derived.Test.YtemdmalcoemhnaaChecked
import GoSem.Claim
import GoSem.ClaimJoined
import GoSem.ClaimMapViews
import Derived.JoinedTies
import Derived.KernelRfl
namespace Go.Proofs.Ytemdmalcoemhnaa
/- THE CELL 'sum', in the pinned program and in every row, IS THE sha256 OF THE DUMP (.gsa) THAT YtemdmalcoemhnaaProg.lean LOADS. Nothing in Lean hashes anything: it is a label: what it is worth is what the hold of that sum in a sandbox is worth. -/
noncomputable def Try.pinned : Pinned := { name := "ytemdmalcoemhnaa", sum := "30cd573ecaccae6b7a5b3a96a0bfcd275bbb41936b94996c1e2e8089a895bd7f", checked := Try.checked }
namespace Rows
def none {H : Type} : Left H := { results := [], args := [] }

/-- 'monikerlaw14.BidiBreaks': WHATEVER THE INPUT: true; the input reads as it did. -/
def bidiBreaksSpec : ChangeSpec := { name := "bidiBreaks", fn := fun _ => fun
  | [d] => { results := [.lit (.bool true)], args := [d] }
  | _ => none }
def bidiBreaksRow : OpenClaim := { program := "ytemdmalcoemhnaa", sum := "30cd573ecaccae6b7a5b3a96a0bfcd275bbb41936b94996c1e2e8089a895bd7f", func := "moniker/monikerlaw14.BidiBreaks", spec := "bidiBreaks", unfollowed := true, recurses := true, plainKeys := false, apart := false }
def BidiBreaksSaid : Prop := bidiBreaksRow.holds Try.pinned (OpenSpec.ofChange bidiBreaksSpec)

/-- ITS FALSE NEIGHBOUR: 'it returns false'. Refute it at one input. -/
def bidiBreaksWrong : ChangeSpec := { name := "bidiBreaks", fn := fun _ => fun
  | [d] => { results := [.lit (.bool false)], args := [d] }
  | _ => none }
def BidiBreaksWrongFalsely : Prop := bidiBreaksRow.holds Try.pinned (OpenSpec.ofChange bidiBreaksWrong)

/-- 'monikerlaw14.BidiLabels': WHATEVER THE INPUT: true; the input reads as it did. -/
def bidiLabelsSpec : ChangeSpec := { name := "bidiLabels", fn := fun _ => fun
  | [d] => { results := [.lit (.bool true)], args := [d] }
  | _ => none }
def bidiLabelsRow : OpenClaim := { program := "ytemdmalcoemhnaa", sum := "30cd573ecaccae6b7a5b3a96a0bfcd275bbb41936b94996c1e2e8089a895bd7f", func := "moniker/monikerlaw14.BidiLabels", spec := "bidiLabels", unfollowed := true, recurses := true, plainKeys := false, apart := false }
def BidiLabelsSaid : Prop := bidiLabelsRow.holds Try.pinned (OpenSpec.ofChange bidiLabelsSpec)

/-- ITS FALSE NEIGHBOUR: 'it returns false'. Refute it at one input. -/
def bidiLabelsWrong : ChangeSpec := { name := "bidiLabels", fn := fun _ => fun
  | [d] => { results := [.lit (.bool false)], args := [d] }
  | _ => none }
def BidiLabelsWrongFalsely : Prop := bidiLabelsRow.holds Try.pinned (OpenSpec.ofChange bidiLabelsWrong)

/-- 'monikerlaw14.BidiMarks': WHATEVER THE INPUT: true; the input reads as it did. -/
def bidiMarksSpec : ChangeSpec := { name := "bidiMarks", fn := fun _ => fun
  | [d1, d2] => { results := [.lit (.bool true)], args := [d1, d2] }
  | _ => none }
def bidiMarksRow : OpenClaim := { program := "ytemdmalcoemhnaa", sum := "30cd573ecaccae6b7a5b3a96a0bfcd275bbb41936b94996c1e2e8089a895bd7f", func := "moniker/monikerlaw14.BidiMarks", spec := "bidiMarks", unfollowed := true, recurses := true, plainKeys := false, apart := false }
def BidiMarksSaid : Prop := bidiMarksRow.holds Try.pinned (OpenSpec.ofChange bidiMarksSpec)

/-- ITS FALSE NEIGHBOUR: 'it returns false'. Refute it at one input. -/
def bidiMarksWrong : ChangeSpec := { name := "bidiMarks", fn := fun _ => fun
  | [d1, d2] => { results := [.lit (.bool false)], args := [d1, d2] }
  | _ => none }
def BidiMarksWrongFalsely : Prop := bidiMarksRow.holds Try.pinned (OpenSpec.ofChange bidiMarksWrong)

/- THE SECOND FORM. 'bulk': how many values and letters a reading holds, each counted each time it is reached (what is shared counts as often as it is met; a slice's spare places count too). A statement '..UptoSaid' is the law's where the arguments, and the package variables that the reading takes, are together of bulk at most 1048576: NARROWER than '..Said'. Prove '..Said' where nothing that the law and all that it calls make is longer than what came in: it says more and counts as full. Else prove '..UptoSaid'. A law counts once. -/
mutual
def uptoBulk {H : Type} : DataW H → Nat
  | .lit (.string bytes) => bytes.length + 1
  | .lit _ => 1
  | .nil => 1
  | .ptr d => uptoBulk d + 1
  | .slice elems spare => uptoBulkAll elems + uptoBulkAll spare + 1
  | .agg parts => uptoBulkAll parts + 1
  | .iface _ d => uptoBulk d + 1
  | .map entries => uptoBulkEntries entries + 1
  | .held _ => 1
def uptoBulkAll {H : Type} : List (DataW H) → Nat
  | [] => 0
  | d :: r => uptoBulk d + uptoBulkAll r
def uptoBulkEntries {H : Type} : List (Lit × DataW H) → Nat
  | [] => 0
  | x :: r => uptoBulkEntry x + uptoBulkEntries r
def uptoBulkEntry {H : Type} : Lit × DataW H → Nat
  | (.string bytes, d) => bytes.length + uptoBulk d + 1
  | (_, d) => uptoBulk d + 1
 end
def uptoSmall : (H : Type) → List (DataW H) → Bool := fun _ ds => decide (uptoBulkAll ds ≤ 1048576)
def OpenSpec.upto (s : _root_.Go.ChangeSpec) : _root_.Go.OpenSpec := { _root_.Go.OpenSpec.ofChange s with cond := some uptoSmall }

/-- 'monikerlaw14.BidiBreaks', WHERE WHAT IT READS IS OF BULK AT MOST 1048576: true; the input reads as it did. -/
def bidiBreaksUptoRow : OpenClaim := { program := "ytemdmalcoemhnaa", sum := "30cd573ecaccae6b7a5b3a96a0bfcd275bbb41936b94996c1e2e8089a895bd7f", func := "moniker/monikerlaw14.BidiBreaks", spec := "bidiBreaks", unfollowed := true, recurses := true, plainKeys := false, apart := false, narrowed := true }
def BidiBreaksUptoSaid : Prop := bidiBreaksUptoRow.holds Try.pinned (OpenSpec.upto bidiBreaksSpec)

/-- 'monikerlaw14.BidiLabels', WHERE WHAT IT READS IS OF BULK AT MOST 1048576: true; the input reads as it did. -/
def bidiLabelsUptoRow : OpenClaim := { program := "ytemdmalcoemhnaa", sum := "30cd573ecaccae6b7a5b3a96a0bfcd275bbb41936b94996c1e2e8089a895bd7f", func := "moniker/monikerlaw14.BidiLabels", spec := "bidiLabels", unfollowed := true, recurses := true, plainKeys := false, apart := false, narrowed := true }
def BidiLabelsUptoSaid : Prop := bidiLabelsUptoRow.holds Try.pinned (OpenSpec.upto bidiLabelsSpec)

/-- 'monikerlaw14.BidiMarks', WHERE WHAT IT READS IS OF BULK AT MOST 1048576: true; the input reads as it did. -/
def bidiMarksUptoRow : OpenClaim := { program := "ytemdmalcoemhnaa", sum := "30cd573ecaccae6b7a5b3a96a0bfcd275bbb41936b94996c1e2e8089a895bd7f", func := "moniker/monikerlaw14.BidiMarks", spec := "bidiMarks", unfollowed := true, recurses := true, plainKeys := false, apart := false, narrowed := true }
def BidiMarksUptoSaid : Prop := bidiMarksUptoRow.holds Try.pinned (OpenSpec.upto bidiMarksSpec)

end Rows
end Go.Proofs.Ytemdmalcoemhnaa
