/-
  No cell of these rows narrows 'for every input' (looked for: loops, veiled, ifaces, maps, wideKeys, modest, calm, conditions, laid).
  DERIVED. THE GIVEN ROWS OF THIS SEAT. 4 by the template 'for every input the law returns true; each argument reads behind the call as it read before'; 0 by the template 'total and deterministic' (their statements: YtfbphacbnmimkaaTotals.lean).
  GIVEN WITH THE SEED: the statements are not yours to turn. If you find one false, say at which input.
  Laid BY PROGRAM, IN A SANDBOX (cutbox-rows.mjs): the forced cells as the released guide's own fill.sh prints them over the translation 33da130e26ebb241… (all of the seat's roots in one cut). By AI agents, Wed Nov 11 2026. No macro, syntax, notation, axiom, sorry.
-/
import Derived.Test.YtfbphacbnmimkaaChecked
import GoSem.Claim
import GoSem.ClaimJoined
import GoSem.ClaimMapViews
import Derived.JoinedTies
import Derived.KernelRfl
namespace Go.Proofs.Ytfbphacbnmimkaa
/- THE CELL 'sum', in the pinned program and in every row, IS THE sha256 OF THE DUMP (.gsa) THAT YtfbphacbnmimkaaProg.lean LOADS. Nothing in Lean hashes anything: it is a label: what it is worth is what the hold of that sum in a sandbox is worth. -/
noncomputable def Try.pinned : Pinned := { name := "ytfbphacbnmimkaa", sum := "33da130e26ebb241e0e1c1e54bf663d38cb1c8878daf95c875f7a68f1aced7ec", checked := Try.checked }
namespace Rows
def none {H : Type} : Left H := { results := [], args := [] }

/-- 'monikerlaw06.UcdTells': WHATEVER THE INPUT: true; the input reads as it did. -/
def ucdTellsSpec : ChangeSpec := { name := "ucdTells", fn := fun _ => fun
  | [d] => { results := [.lit (.bool true)], args := [d] }
  | _ => none }
def ucdTellsRow : OpenClaim := { program := "ytfbphacbnmimkaa", sum := "33da130e26ebb241e0e1c1e54bf663d38cb1c8878daf95c875f7a68f1aced7ec", func := "moniker/monikerlaw06.UcdTells", spec := "ucdTells", unfollowed := true, recurses := true, plainKeys := false, apart := false }
def UcdTellsSaid : Prop := ucdTellsRow.holds Try.pinned (OpenSpec.ofChange ucdTellsSpec)

/-- ITS FALSE NEIGHBOUR: 'it returns false'. Refute it at one input. -/
def ucdTellsWrong : ChangeSpec := { name := "ucdTells", fn := fun _ => fun
  | [d] => { results := [.lit (.bool false)], args := [d] }
  | _ => none }
def UcdTellsWrongFalsely : Prop := ucdTellsRow.holds Try.pinned (OpenSpec.ofChange ucdTellsWrong)

/-- 'monikerlaw06.UcdCounts': WHATEVER THE INPUT: true; the input reads as it did. -/
def ucdCountsSpec : ChangeSpec := { name := "ucdCounts", fn := fun _ => fun
  | [d] => { results := [.lit (.bool true)], args := [d] }
  | _ => none }
def ucdCountsRow : OpenClaim := { program := "ytfbphacbnmimkaa", sum := "33da130e26ebb241e0e1c1e54bf663d38cb1c8878daf95c875f7a68f1aced7ec", func := "moniker/monikerlaw06.UcdCounts", spec := "ucdCounts", unfollowed := true, recurses := true, plainKeys := false, apart := false }
def UcdCountsSaid : Prop := ucdCountsRow.holds Try.pinned (OpenSpec.ofChange ucdCountsSpec)

/-- ITS FALSE NEIGHBOUR: 'it returns false'. Refute it at one input. -/
def ucdCountsWrong : ChangeSpec := { name := "ucdCounts", fn := fun _ => fun
  | [d] => { results := [.lit (.bool false)], args := [d] }
  | _ => none }
def UcdCountsWrongFalsely : Prop := ucdCountsRow.holds Try.pinned (OpenSpec.ofChange ucdCountsWrong)

/-- 'monikerlaw06.UcdNext': WHATEVER THE INPUT: true; the input reads as it did. -/
def ucdNextSpec : ChangeSpec := { name := "ucdNext", fn := fun _ => fun
  | [d1, d2] => { results := [.lit (.bool true)], args := [d1, d2] }
  | _ => none }
def ucdNextRow : OpenClaim := { program := "ytfbphacbnmimkaa", sum := "33da130e26ebb241e0e1c1e54bf663d38cb1c8878daf95c875f7a68f1aced7ec", func := "moniker/monikerlaw06.UcdNext", spec := "ucdNext", unfollowed := true, recurses := true, plainKeys := false, apart := false }
def UcdNextSaid : Prop := ucdNextRow.holds Try.pinned (OpenSpec.ofChange ucdNextSpec)

/-- ITS FALSE NEIGHBOUR: 'it returns false'. Refute it at one input. -/
def ucdNextWrong : ChangeSpec := { name := "ucdNext", fn := fun _ => fun
  | [d1, d2] => { results := [.lit (.bool false)], args := [d1, d2] }
  | _ => none }
def UcdNextWrongFalsely : Prop := ucdNextRow.holds Try.pinned (OpenSpec.ofChange ucdNextWrong)

/-- 'monikerlaw06.UcdMarks': WHATEVER THE INPUT: true; the input reads as it did. -/
def ucdMarksSpec : ChangeSpec := { name := "ucdMarks", fn := fun _ => fun
  | [d] => { results := [.lit (.bool true)], args := [d] }
  | _ => none }
def ucdMarksRow : OpenClaim := { program := "ytfbphacbnmimkaa", sum := "33da130e26ebb241e0e1c1e54bf663d38cb1c8878daf95c875f7a68f1aced7ec", func := "moniker/monikerlaw06.UcdMarks", spec := "ucdMarks", unfollowed := true, recurses := true, plainKeys := false, apart := false }
def UcdMarksSaid : Prop := ucdMarksRow.holds Try.pinned (OpenSpec.ofChange ucdMarksSpec)

/-- ITS FALSE NEIGHBOUR: 'it returns false'. Refute it at one input. -/
def ucdMarksWrong : ChangeSpec := { name := "ucdMarks", fn := fun _ => fun
  | [d] => { results := [.lit (.bool false)], args := [d] }
  | _ => none }
def UcdMarksWrongFalsely : Prop := ucdMarksRow.holds Try.pinned (OpenSpec.ofChange ucdMarksWrong)

/- THE SECOND FORM. 'bulk': how many values and letters a reading holds, each counted each time it is reached (what is shared counts as often as it is met; a slice's spare places count too). A statement '..UptoSaid' is the law's where the arguments, and the package variables that the reading takes, are together of bulk at most 1048576: NARROWER than '..Said'. Prove '..Said' where nothing that the law and all that it calls make is longer than what came in: it says more and counts as full. Else prove '..UptoSaid'. A law counts once. -/
mutual
def uptoBulk {H : Type} : DataW H → Nat
  | .lit (.string bytes) => bytes.length + 1
  | .lit _ => 1
  | .nil => 1
  | .ptr d => uptoBulk d + 1
  | .slice elems spare => uptoBulkAll elems + uptoBulkAll spare + 1
  | .agg parts => uptoBulkAll parts + 1
  | .iface _ d => uptoBulk d + 1
  | .map entries => uptoBulkEntries entries + 1
  | .held _ => 1
def uptoBulkAll {H : Type} : List (DataW H) → Nat
  | [] => 0
  | d :: r => uptoBulk d + uptoBulkAll r
def uptoBulkEntries {H : Type} : List (Lit × DataW H) → Nat
  | [] => 0
  | x :: r => uptoBulkEntry x + uptoBulkEntries r
def uptoBulkEntry {H : Type} : Lit × DataW H → Nat
  | (.string bytes, d) => bytes.length + uptoBulk d + 1
  | (_, d) => uptoBulk d + 1
 end
def uptoSmall : (H : Type) → List (DataW H) → Bool := fun _ ds => decide (uptoBulkAll ds ≤ 1048576)
def OpenSpec.upto (s : _root_.Go.ChangeSpec) : _root_.Go.OpenSpec := { _root_.Go.OpenSpec.ofChange s with cond := some uptoSmall }

/-- 'monikerlaw06.UcdTells', WHERE WHAT IT READS IS OF BULK AT MOST 1048576: true; the input reads as it did. -/
def ucdTellsUptoRow : OpenClaim := { program := "ytfbphacbnmimkaa", sum := "33da130e26ebb241e0e1c1e54bf663d38cb1c8878daf95c875f7a68f1aced7ec", func := "moniker/monikerlaw06.UcdTells", spec := "ucdTells", unfollowed := true, recurses := true, plainKeys := false, apart := false, narrowed := true }
def UcdTellsUptoSaid : Prop := ucdTellsUptoRow.holds Try.pinned (OpenSpec.upto ucdTellsSpec)

/-- 'monikerlaw06.UcdCounts', WHERE WHAT IT READS IS OF BULK AT MOST 1048576: true; the input reads as it did. -/
def ucdCountsUptoRow : OpenClaim := { program := "ytfbphacbnmimkaa", sum := "33da130e26ebb241e0e1c1e54bf663d38cb1c8878daf95c875f7a68f1aced7ec", func := "moniker/monikerlaw06.UcdCounts", spec := "ucdCounts", unfollowed := true, recurses := true, plainKeys := false, apart := false, narrowed := true }
def UcdCountsUptoSaid : Prop := ucdCountsUptoRow.holds Try.pinned (OpenSpec.upto ucdCountsSpec)

/-- 'monikerlaw06.UcdNext', WHERE WHAT IT READS IS OF BULK AT MOST 1048576: true; the input reads as it did. -/
def ucdNextUptoRow : OpenClaim := { program := "ytfbphacbnmimkaa", sum := "33da130e26ebb241e0e1c1e54bf663d38cb1c8878daf95c875f7a68f1aced7ec", func := "moniker/monikerlaw06.UcdNext", spec := "ucdNext", unfollowed := true, recurses := true, plainKeys := false, apart := false, narrowed := true }
def UcdNextUptoSaid : Prop := ucdNextUptoRow.holds Try.pinned (OpenSpec.upto ucdNextSpec)

/-- 'monikerlaw06.UcdMarks', WHERE WHAT IT READS IS OF BULK AT MOST 1048576: true; the input reads as it did. -/
def ucdMarksUptoRow : OpenClaim := { program := "ytfbphacbnmimkaa", sum := "33da130e26ebb241e0e1c1e54bf663d38cb1c8878daf95c875f7a68f1aced7ec", func := "moniker/monikerlaw06.UcdMarks", spec := "ucdMarks", unfollowed := true, recurses := true, plainKeys := false, apart := false, narrowed := true }
def UcdMarksUptoSaid : Prop := ucdMarksUptoRow.holds Try.pinned (OpenSpec.upto ucdMarksSpec)

end Rows
end Go.Proofs.Ytfbphacbnmimkaa
