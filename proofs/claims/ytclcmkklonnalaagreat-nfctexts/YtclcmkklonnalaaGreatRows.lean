/-
  No cell of these rows narrows 'for every input' (looked for: loops, veiled, ifaces, maps, wideKeys, modest, calm, conditions, laid).
  DERIVED. THE GIVEN ROWS OF THIS SEAT. 2 by the template 'for every input the law returns true; each argument reads behind the call as it read before'; 0 by the template 'total and deterministic' (their statements: YtclcmkklonnalaaGreatTotals.lean).
  GIVEN WITH THE SEED: the statements are not yours to turn. If you find one false, say at which input.
  Laid BY PROGRAM, IN A SANDBOX (cutbox-rows.mjs): the forced cells as the released guide's own fill.sh prints them over the translation cfefd93b50738a81… (all of the seat's roots in one cut). By AI agents, Wed Nov 11 2026. No macro, syntax, notation, axiom, sorry.
-/
import Derived.Test.YtclcmkklonnalaaGreatChecked
import GoSem.Claim
import GoSem.ClaimJoined
import GoSem.ClaimMapViews
import Derived.JoinedTies
import Derived.KernelRfl
namespace Go.Proofs.YtclcmkklonnalaaGreat
/- THE CELL 'sum', in the pinned program and in every row, IS THE sha256 OF THE DUMP (.gsa) THAT YtclcmkklonnalaaGreatProg.lean LOADS. Nothing in Lean hashes anything: it is a label: what it is worth is what the hold of that sum in a sandbox is worth. -/
noncomputable def Tryz.pinned : Pinned := { name := "ytclcmkklonnalaagreat", sum := "cfefd93b50738a8159c83dff838f7e1c07f986fe90510a536fbfd559444b622b", checked := Tryz.checked }
namespace Rows
def none {H : Type} : Left H := { results := [], args := [] }

/-- 'monikerlaw10.NfcQuick': WHATEVER THE INPUT: true; the input reads as it did. -/
def nfcQuickSpec : ChangeSpec := { name := "nfcQuick", fn := fun _ => fun
  | [d] => { results := [.lit (.bool true)], args := [d] }
  | _ => none }
def nfcQuickRow : OpenClaim := { program := "ytclcmkklonnalaagreat", sum := "cfefd93b50738a8159c83dff838f7e1c07f986fe90510a536fbfd559444b622b", func := "moniker/monikerlaw10.NfcQuick", spec := "nfcQuick", unfollowed := true, recurses := true, plainKeys := false, apart := false }
def NfcQuickSaid : Prop := nfcQuickRow.holds Tryz.pinned (OpenSpec.ofChange nfcQuickSpec)

/-- ITS FALSE NEIGHBOUR: 'it returns false'. Refute it at one input. -/
def nfcQuickWrong : ChangeSpec := { name := "nfcQuick", fn := fun _ => fun
  | [d] => { results := [.lit (.bool false)], args := [d] }
  | _ => none }
def NfcQuickWrongFalsely : Prop := nfcQuickRow.holds Tryz.pinned (OpenSpec.ofChange nfcQuickWrong)

/-- 'monikerlaw10.NfcTexts': WHATEVER THE INPUT: true; the input reads as it did. -/
def nfcTextsSpec : ChangeSpec := { name := "nfcTexts", fn := fun _ => fun
  | [d] => { results := [.lit (.bool true)], args := [d] }
  | _ => none }
def nfcTextsRow : OpenClaim := { program := "ytclcmkklonnalaagreat", sum := "cfefd93b50738a8159c83dff838f7e1c07f986fe90510a536fbfd559444b622b", func := "moniker/monikerlaw10.NfcTexts", spec := "nfcTexts", inPlace := ["internal/abi.NoEscape"], unfollowed := true, recurses := true, plainKeys := false, apart := false }
def NfcTextsSaid : Prop := nfcTextsRow.holds Tryz.pinned (OpenSpec.ofChange nfcTextsSpec)

/-- ITS FALSE NEIGHBOUR: 'it returns false'. Refute it at one input. -/
def nfcTextsWrong : ChangeSpec := { name := "nfcTexts", fn := fun _ => fun
  | [d] => { results := [.lit (.bool false)], args := [d] }
  | _ => none }
def NfcTextsWrongFalsely : Prop := nfcTextsRow.holds Tryz.pinned (OpenSpec.ofChange nfcTextsWrong)

/- THE SECOND FORM. 'bulk': how many values and letters a reading holds, each counted each time it is reached (what is shared counts as often as it is met; a slice's spare places count too). A statement '..UptoSaid' is the law's where the arguments, and the package variables that the reading takes, are together of bulk at most 1048576: NARROWER than '..Said'. Prove '..Said' where nothing that the law and all that it calls make is longer than what came in: it says more and counts as full. Else prove '..UptoSaid'. A law counts once. -/
mutual
def uptoBulk {H : Type} : DataW H → Nat
  | .lit (.string bytes) => bytes.length + 1
  | .lit _ => 1
  | .nil => 1
  | .ptr d => uptoBulk d + 1
  | .slice elems spare => uptoBulkAll elems + uptoBulkAll spare + 1
  | .agg parts => uptoBulkAll parts + 1
  | .iface _ d => uptoBulk d + 1
  | .map entries => uptoBulkEntries entries + 1
  | .held _ => 1
def uptoBulkAll {H : Type} : List (DataW H) → Nat
  | [] => 0
  | d :: r => uptoBulk d + uptoBulkAll r
def uptoBulkEntries {H : Type} : List (Lit × DataW H) → Nat
  | [] => 0
  | x :: r => uptoBulkEntry x + uptoBulkEntries r
def uptoBulkEntry {H : Type} : Lit × DataW H → Nat
  | (.string bytes, d) => bytes.length + uptoBulk d + 1
  | (_, d) => uptoBulk d + 1
 end
def uptoSmall : (H : Type) → List (DataW H) → Bool := fun _ ds => decide (uptoBulkAll ds ≤ 1048576)
def OpenSpec.upto (s : _root_.Go.ChangeSpec) : _root_.Go.OpenSpec := { _root_.Go.OpenSpec.ofChange s with cond := some uptoSmall }

/-- 'monikerlaw10.NfcQuick', WHERE WHAT IT READS IS OF BULK AT MOST 1048576: true; the input reads as it did. -/
def nfcQuickUptoRow : OpenClaim := { program := "ytclcmkklonnalaagreat", sum := "cfefd93b50738a8159c83dff838f7e1c07f986fe90510a536fbfd559444b622b", func := "moniker/monikerlaw10.NfcQuick", spec := "nfcQuick", unfollowed := true, recurses := true, plainKeys := false, apart := false, narrowed := true }
def NfcQuickUptoSaid : Prop := nfcQuickUptoRow.holds Tryz.pinned (OpenSpec.upto nfcQuickSpec)

/-- 'monikerlaw10.NfcTexts', WHERE WHAT IT READS IS OF BULK AT MOST 1048576: true; the input reads as it did. -/
def nfcTextsUptoRow : OpenClaim := { program := "ytclcmkklonnalaagreat", sum := "cfefd93b50738a8159c83dff838f7e1c07f986fe90510a536fbfd559444b622b", func := "moniker/monikerlaw10.NfcTexts", spec := "nfcTexts", inPlace := ["internal/abi.NoEscape"], unfollowed := true, recurses := true, plainKeys := false, apart := false, narrowed := true }
def NfcTextsUptoSaid : Prop := nfcTextsUptoRow.holds Tryz.pinned (OpenSpec.upto nfcTextsSpec)

end Rows
end Go.Proofs.YtclcmkklonnalaaGreat
