/-
  No cell of these rows narrows 'for every input' (looked for: loops, veiled, ifaces, maps, wideKeys, modest, calm, conditions, laid).
  DERIVED. THE GIVEN ROWS OF THIS SEAT. 5 by the template 'for every input the law returns true; each argument reads behind the call as it read before'; 0 by the template 'total and deterministic' (their statements: YtbamhbfncddieaaTotals.lean).
  GIVEN WITH THE SEED: the statements are not yours to turn. If you find one false, say at which input.
  Laid BY PROGRAM, IN A SANDBOX (cutbox-rows.mjs): the forced cells as the released guide's own fill.sh prints them over the translation e76e877927631fb1… (all of the seat's roots in one cut). By AI agents, Wed Nov 11 2026. No macro, syntax, notation, axiom, sorry.
-/
import Derived.Test.YtbamhbfncddieaaChecked
import GoSem.Claim
import GoSem.ClaimJoined
import GoSem.ClaimMapViews
import Derived.JoinedTies
import Derived.KernelRfl
namespace Go.Proofs.Ytbamhbfncddieaa
/- THE CELL 'sum', in the pinned program and in every row, IS THE sha256 OF THE DUMP (.gsa) THAT YtbamhbfncddieaaProg.lean LOADS. Nothing in Lean hashes anything: it is a label: what it is worth is what the hold of that sum in a sandbox is worth. -/
noncomputable def Try.pinned : Pinned := { name := "ytbamhbfncddieaa", sum := "e76e877927631fb1848b3f7f89468f8ec16e89161ef9183c07feb44761b4ee80", checked := Try.checked }
namespace Rows
def none {H : Type} : Left H := { results := [], args := [] }

/-- 'monikerlaw12.DeriveLower': WHATEVER THE INPUT: true; the input reads as it did. -/
def deriveLowerSpec : ChangeSpec := { name := "deriveLower", fn := fun _ => fun
  | [d] => { results := [.lit (.bool true)], args := [d] }
  | _ => none }
def deriveLowerRow : OpenClaim := { program := "ytbamhbfncddieaa", sum := "e76e877927631fb1848b3f7f89468f8ec16e89161ef9183c07feb44761b4ee80", func := "moniker/monikerlaw12.DeriveLower", spec := "deriveLower", unfollowed := true, recurses := true, plainKeys := false, apart := false }
def DeriveLowerSaid : Prop := deriveLowerRow.holds Try.pinned (OpenSpec.ofChange deriveLowerSpec)

/-- ITS FALSE NEIGHBOUR: 'it returns false'. Refute it at one input. -/
def deriveLowerWrong : ChangeSpec := { name := "deriveLower", fn := fun _ => fun
  | [d] => { results := [.lit (.bool false)], args := [d] }
  | _ => none }
def DeriveLowerWrongFalsely : Prop := deriveLowerRow.holds Try.pinned (OpenSpec.ofChange deriveLowerWrong)

/-- 'monikerlaw12.DeriveKinds': WHATEVER THE INPUT: true; the input reads as it did. -/
def deriveKindsSpec : ChangeSpec := { name := "deriveKinds", fn := fun _ => fun
  | [d] => { results := [.lit (.bool true)], args := [d] }
  | _ => none }
def deriveKindsRow : OpenClaim := { program := "ytbamhbfncddieaa", sum := "e76e877927631fb1848b3f7f89468f8ec16e89161ef9183c07feb44761b4ee80", func := "moniker/monikerlaw12.DeriveKinds", spec := "deriveKinds", unfollowed := true, recurses := true, plainKeys := false, apart := false }
def DeriveKindsSaid : Prop := deriveKindsRow.holds Try.pinned (OpenSpec.ofChange deriveKindsSpec)

/-- ITS FALSE NEIGHBOUR: 'it returns false'. Refute it at one input. -/
def deriveKindsWrong : ChangeSpec := { name := "deriveKinds", fn := fun _ => fun
  | [d] => { results := [.lit (.bool false)], args := [d] }
  | _ => none }
def DeriveKindsWrongFalsely : Prop := deriveKindsRow.holds Try.pinned (OpenSpec.ofChange deriveKindsWrong)

/-- 'monikerlaw13.RuleMeets': WHATEVER THE INPUT: true; the input reads as it did. -/
def ruleMeetsSpec : ChangeSpec := { name := "ruleMeets", fn := fun _ => fun
  | [d1, d2] => { results := [.lit (.bool true)], args := [d1, d2] }
  | _ => none }
def ruleMeetsRow : OpenClaim := { program := "ytbamhbfncddieaa", sum := "e76e877927631fb1848b3f7f89468f8ec16e89161ef9183c07feb44761b4ee80", func := "moniker/monikerlaw13.RuleMeets", spec := "ruleMeets", unfollowed := true, recurses := true, plainKeys := false, apart := false }
def RuleMeetsSaid : Prop := ruleMeetsRow.holds Try.pinned (OpenSpec.ofChange ruleMeetsSpec)

/-- ITS FALSE NEIGHBOUR: 'it returns false'. Refute it at one input. -/
def ruleMeetsWrong : ChangeSpec := { name := "ruleMeets", fn := fun _ => fun
  | [d1, d2] => { results := [.lit (.bool false)], args := [d1, d2] }
  | _ => none }
def RuleMeetsWrongFalsely : Prop := ruleMeetsRow.holds Try.pinned (OpenSpec.ofChange ruleMeetsWrong)

/-- 'monikerlaw13.RuleFree': WHATEVER THE INPUT: true; the input reads as it did. -/
def ruleFreeSpec : ChangeSpec := { name := "ruleFree", fn := fun _ => fun
  | [d1, d2] => { results := [.lit (.bool true)], args := [d1, d2] }
  | _ => none }
def ruleFreeRow : OpenClaim := { program := "ytbamhbfncddieaa", sum := "e76e877927631fb1848b3f7f89468f8ec16e89161ef9183c07feb44761b4ee80", func := "moniker/monikerlaw13.RuleFree", spec := "ruleFree", unfollowed := true, recurses := true, plainKeys := false, apart := false }
def RuleFreeSaid : Prop := ruleFreeRow.holds Try.pinned (OpenSpec.ofChange ruleFreeSpec)

/-- ITS FALSE NEIGHBOUR: 'it returns false'. Refute it at one input. -/
def ruleFreeWrong : ChangeSpec := { name := "ruleFree", fn := fun _ => fun
  | [d1, d2] => { results := [.lit (.bool false)], args := [d1, d2] }
  | _ => none }
def RuleFreeWrongFalsely : Prop := ruleFreeRow.holds Try.pinned (OpenSpec.ofChange ruleFreeWrong)

/-- 'monikerlaw13.RuleMarks': WHATEVER THE INPUT: true; the input reads as it did. -/
def ruleMarksSpec : ChangeSpec := { name := "ruleMarks", fn := fun _ => fun
  | [d1, d2, d3, d4] => { results := [.lit (.bool true)], args := [d1, d2, d3, d4] }
  | _ => none }
def ruleMarksRow : OpenClaim := { program := "ytbamhbfncddieaa", sum := "e76e877927631fb1848b3f7f89468f8ec16e89161ef9183c07feb44761b4ee80", func := "moniker/monikerlaw13.RuleMarks", spec := "ruleMarks", unfollowed := true, recurses := true, plainKeys := false, apart := false }
def RuleMarksSaid : Prop := ruleMarksRow.holds Try.pinned (OpenSpec.ofChange ruleMarksSpec)

/-- ITS FALSE NEIGHBOUR: 'it returns false'. Refute it at one input. -/
def ruleMarksWrong : ChangeSpec := { name := "ruleMarks", fn := fun _ => fun
  | [d1, d2, d3, d4] => { results := [.lit (.bool false)], args := [d1, d2, d3, d4] }
  | _ => none }
def RuleMarksWrongFalsely : Prop := ruleMarksRow.holds Try.pinned (OpenSpec.ofChange ruleMarksWrong)

/- THE SECOND FORM. 'bulk': how many values and letters a reading holds, each counted each time it is reached (what is shared counts as often as it is met; a slice's spare places count too). A statement '..UptoSaid' is the law's where the arguments, and the package variables that the reading takes, are together of bulk at most 1048576: NARROWER than '..Said'. Prove '..Said' where nothing that the law and all that it calls make is longer than what came in: it says more and counts as full. Else prove '..UptoSaid'. A law counts once. -/
mutual
def uptoBulk {H : Type} : DataW H → Nat
  | .lit (.string bytes) => bytes.length + 1
  | .lit _ => 1
  | .nil => 1
  | .ptr d => uptoBulk d + 1
  | .slice elems spare => uptoBulkAll elems + uptoBulkAll spare + 1
  | .agg parts => uptoBulkAll parts + 1
  | .iface _ d => uptoBulk d + 1
  | .map entries => uptoBulkEntries entries + 1
  | .held _ => 1
def uptoBulkAll {H : Type} : List (DataW H) → Nat
  | [] => 0
  | d :: r => uptoBulk d + uptoBulkAll r
def uptoBulkEntries {H : Type} : List (Lit × DataW H) → Nat
  | [] => 0
  | x :: r => uptoBulkEntry x + uptoBulkEntries r
def uptoBulkEntry {H : Type} : Lit × DataW H → Nat
  | (.string bytes, d) => bytes.length + uptoBulk d + 1
  | (_, d) => uptoBulk d + 1
 end
def uptoSmall : (H : Type) → List (DataW H) → Bool := fun _ ds => decide (uptoBulkAll ds ≤ 1048576)
def OpenSpec.upto (s : _root_.Go.ChangeSpec) : _root_.Go.OpenSpec := { _root_.Go.OpenSpec.ofChange s with cond := some uptoSmall }

/-- 'monikerlaw12.DeriveLower', WHERE WHAT IT READS IS OF BULK AT MOST 1048576: true; the input reads as it did. -/
def deriveLowerUptoRow : OpenClaim := { program := "ytbamhbfncddieaa", sum := "e76e877927631fb1848b3f7f89468f8ec16e89161ef9183c07feb44761b4ee80", func := "moniker/monikerlaw12.DeriveLower", spec := "deriveLower", unfollowed := true, recurses := true, plainKeys := false, apart := false, narrowed := true }
def DeriveLowerUptoSaid : Prop := deriveLowerUptoRow.holds Try.pinned (OpenSpec.upto deriveLowerSpec)

/-- 'monikerlaw12.DeriveKinds', WHERE WHAT IT READS IS OF BULK AT MOST 1048576: true; the input reads as it did. -/
def deriveKindsUptoRow : OpenClaim := { program := "ytbamhbfncddieaa", sum := "e76e877927631fb1848b3f7f89468f8ec16e89161ef9183c07feb44761b4ee80", func := "moniker/monikerlaw12.DeriveKinds", spec := "deriveKinds", unfollowed := true, recurses := true, plainKeys := false, apart := false, narrowed := true }
def DeriveKindsUptoSaid : Prop := deriveKindsUptoRow.holds Try.pinned (OpenSpec.upto deriveKindsSpec)

/-- 'monikerlaw13.RuleMeets', WHERE WHAT IT READS IS OF BULK AT MOST 1048576: true; the input reads as it did. -/
def ruleMeetsUptoRow : OpenClaim := { program := "ytbamhbfncddieaa", sum := "e76e877927631fb1848b3f7f89468f8ec16e89161ef9183c07feb44761b4ee80", func := "moniker/monikerlaw13.RuleMeets", spec := "ruleMeets", unfollowed := true, recurses := true, plainKeys := false, apart := false, narrowed := true }
def RuleMeetsUptoSaid : Prop := ruleMeetsUptoRow.holds Try.pinned (OpenSpec.upto ruleMeetsSpec)

/-- 'monikerlaw13.RuleFree', WHERE WHAT IT READS IS OF BULK AT MOST 1048576: true; the input reads as it did. -/
def ruleFreeUptoRow : OpenClaim := { program := "ytbamhbfncddieaa", sum := "e76e877927631fb1848b3f7f89468f8ec16e89161ef9183c07feb44761b4ee80", func := "moniker/monikerlaw13.RuleFree", spec := "ruleFree", unfollowed := true, recurses := true, plainKeys := false, apart := false, narrowed := true }
def RuleFreeUptoSaid : Prop := ruleFreeUptoRow.holds Try.pinned (OpenSpec.upto ruleFreeSpec)

/-- 'monikerlaw13.RuleMarks', WHERE WHAT IT READS IS OF BULK AT MOST 1048576: true; the input reads as it did. -/
def ruleMarksUptoRow : OpenClaim := { program := "ytbamhbfncddieaa", sum := "e76e877927631fb1848b3f7f89468f8ec16e89161ef9183c07feb44761b4ee80", func := "moniker/monikerlaw13.RuleMarks", spec := "ruleMarks", unfollowed := true, recurses := true, plainKeys := false, apart := false, narrowed := true }
def RuleMarksUptoSaid : Prop := ruleMarksUptoRow.holds Try.pinned (OpenSpec.upto ruleMarksSpec)

end Rows
end Go.Proofs.Ytbamhbfncddieaa
