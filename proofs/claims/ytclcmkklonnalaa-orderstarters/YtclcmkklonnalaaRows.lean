/-
  No cell of these rows narrows 'for every input' (looked for: loops, veiled, ifaces, maps, wideKeys, modest, calm, conditions, laid).
  DERIVED. THE GIVEN ROWS OF THIS SEAT. 6 by the template 'for every input the law returns true; each argument reads behind the call as it read before'; 0 by the template 'total and deterministic' (their statements: YtclcmkklonnalaaTotals.lean).
  GIVEN WITH THE SEED: the statements are not yours to turn. If you find one false, say at which input.
  Laid BY PROGRAM, IN A SANDBOX (cutbox-rows.mjs): the forced cells as the released guide's own fill.sh prints them over the translation 8c6200a5393aaa14… (all of the seat's roots in one cut). By AI agents, Wed Nov 11 2026. No macro, syntax, notation, axiom, sorry.
-/
import Derived.Test.YtclcmkklonnalaaChecked
import GoSem.Claim
import GoSem.ClaimJoined
import GoSem.ClaimMapViews
import Derived.JoinedTies
import Derived.KernelRfl
namespace Go.Proofs.Ytclcmkklonnalaa
/- THE CELL 'sum', in the pinned program and in every row, IS THE sha256 OF THE DUMP (.gsa) THAT YtclcmkklonnalaaProg.lean LOADS. Nothing in Lean hashes anything: it is a label: what it is worth is what the hold of that sum in a sandbox is worth. -/
noncomputable def Try.pinned : Pinned := { name := "ytclcmkklonnalaa", sum := "8c6200a5393aaa143bbc8899ca69d9af2272758a127feb91aaf707ea75caf5c7", checked := Try.checked }
namespace Rows
def none {H : Type} : Left H := { results := [], args := [] }

/-- 'monikerlaw09.OrderSorts': WHATEVER THE INPUT: true; the input reads as it did. -/
def orderSortsSpec : ChangeSpec := { name := "orderSorts", fn := fun _ => fun
  | [d] => { results := [.lit (.bool true)], args := [d] }
  | _ => none }
def orderSortsRow : OpenClaim := { program := "ytclcmkklonnalaa", sum := "8c6200a5393aaa143bbc8899ca69d9af2272758a127feb91aaf707ea75caf5c7", func := "moniker/monikerlaw09.OrderSorts", spec := "orderSorts", unfollowed := true, recurses := true, plainKeys := false, apart := false }
def OrderSortsSaid : Prop := orderSortsRow.holds Try.pinned (OpenSpec.ofChange orderSortsSpec)

/-- ITS FALSE NEIGHBOUR: 'it returns false'. Refute it at one input. -/
def orderSortsWrong : ChangeSpec := { name := "orderSorts", fn := fun _ => fun
  | [d] => { results := [.lit (.bool false)], args := [d] }
  | _ => none }
def OrderSortsWrongFalsely : Prop := orderSortsRow.holds Try.pinned (OpenSpec.ofChange orderSortsWrong)

/-- 'monikerlaw09.OrderRuns': WHATEVER THE INPUT: true; the input reads as it did. -/
def orderRunsSpec : ChangeSpec := { name := "orderRuns", fn := fun _ => fun
  | [d1, d2] => { results := [.lit (.bool true)], args := [d1, d2] }
  | _ => none }
def orderRunsRow : OpenClaim := { program := "ytclcmkklonnalaa", sum := "8c6200a5393aaa143bbc8899ca69d9af2272758a127feb91aaf707ea75caf5c7", func := "moniker/monikerlaw09.OrderRuns", spec := "orderRuns", unfollowed := true, recurses := true, plainKeys := false, apart := false }
def OrderRunsSaid : Prop := orderRunsRow.holds Try.pinned (OpenSpec.ofChange orderRunsSpec)

/-- ITS FALSE NEIGHBOUR: 'it returns false'. Refute it at one input. -/
def orderRunsWrong : ChangeSpec := { name := "orderRuns", fn := fun _ => fun
  | [d1, d2] => { results := [.lit (.bool false)], args := [d1, d2] }
  | _ => none }
def OrderRunsWrongFalsely : Prop := orderRunsRow.holds Try.pinned (OpenSpec.ofChange orderRunsWrong)

/-- 'monikerlaw09.OrderStarters': WHATEVER THE INPUT: true; the input reads as it did. -/
def orderStartersSpec : ChangeSpec := { name := "orderStarters", fn := fun _ => fun
  | [d] => { results := [.lit (.bool true)], args := [d] }
  | _ => none }
def orderStartersRow : OpenClaim := { program := "ytclcmkklonnalaa", sum := "8c6200a5393aaa143bbc8899ca69d9af2272758a127feb91aaf707ea75caf5c7", func := "moniker/monikerlaw09.OrderStarters", spec := "orderStarters", unfollowed := true, recurses := true, plainKeys := false, apart := false }
def OrderStartersSaid : Prop := orderStartersRow.holds Try.pinned (OpenSpec.ofChange orderStartersSpec)

/-- ITS FALSE NEIGHBOUR: 'it returns false'. Refute it at one input. -/
def orderStartersWrong : ChangeSpec := { name := "orderStarters", fn := fun _ => fun
  | [d] => { results := [.lit (.bool false)], args := [d] }
  | _ => none }
def OrderStartersWrongFalsely : Prop := orderStartersRow.holds Try.pinned (OpenSpec.ofChange orderStartersWrong)

/-- 'monikerlaw10.NfcForms': WHATEVER THE INPUT: true; the input reads as it did. -/
def nfcFormsSpec : ChangeSpec := { name := "nfcForms", fn := fun _ => fun
  | [d] => { results := [.lit (.bool true)], args := [d] }
  | _ => none }
def nfcFormsRow : OpenClaim := { program := "ytclcmkklonnalaa", sum := "8c6200a5393aaa143bbc8899ca69d9af2272758a127feb91aaf707ea75caf5c7", func := "moniker/monikerlaw10.NfcForms", spec := "nfcForms", unfollowed := true, recurses := true, plainKeys := false, apart := false }
def NfcFormsSaid : Prop := nfcFormsRow.holds Try.pinned (OpenSpec.ofChange nfcFormsSpec)

/-- ITS FALSE NEIGHBOUR: 'it returns false'. Refute it at one input. -/
def nfcFormsWrong : ChangeSpec := { name := "nfcForms", fn := fun _ => fun
  | [d] => { results := [.lit (.bool false)], args := [d] }
  | _ => none }
def NfcFormsWrongFalsely : Prop := nfcFormsRow.holds Try.pinned (OpenSpec.ofChange nfcFormsWrong)

/-- 'monikerlaw10.NfcTwice': WHATEVER THE INPUT: true; the input reads as it did. -/
def nfcTwiceSpec : ChangeSpec := { name := "nfcTwice", fn := fun _ => fun
  | [d] => { results := [.lit (.bool true)], args := [d] }
  | _ => none }
def nfcTwiceRow : OpenClaim := { program := "ytclcmkklonnalaa", sum := "8c6200a5393aaa143bbc8899ca69d9af2272758a127feb91aaf707ea75caf5c7", func := "moniker/monikerlaw10.NfcTwice", spec := "nfcTwice", unfollowed := true, recurses := true, plainKeys := false, apart := false }
def NfcTwiceSaid : Prop := nfcTwiceRow.holds Try.pinned (OpenSpec.ofChange nfcTwiceSpec)

/-- ITS FALSE NEIGHBOUR: 'it returns false'. Refute it at one input. -/
def nfcTwiceWrong : ChangeSpec := { name := "nfcTwice", fn := fun _ => fun
  | [d] => { results := [.lit (.bool false)], args := [d] }
  | _ => none }
def NfcTwiceWrongFalsely : Prop := nfcTwiceRow.holds Try.pinned (OpenSpec.ofChange nfcTwiceWrong)

/-- 'monikerlaw10.NfcSame': WHATEVER THE INPUT: true; the input reads as it did. -/
def nfcSameSpec : ChangeSpec := { name := "nfcSame", fn := fun _ => fun
  | [d1, d2] => { results := [.lit (.bool true)], args := [d1, d2] }
  | _ => none }
def nfcSameRow : OpenClaim := { program := "ytclcmkklonnalaa", sum := "8c6200a5393aaa143bbc8899ca69d9af2272758a127feb91aaf707ea75caf5c7", func := "moniker/monikerlaw10.NfcSame", spec := "nfcSame", unfollowed := true, recurses := true, plainKeys := false, apart := false }
def NfcSameSaid : Prop := nfcSameRow.holds Try.pinned (OpenSpec.ofChange nfcSameSpec)

/-- ITS FALSE NEIGHBOUR: 'it returns false'. Refute it at one input. -/
def nfcSameWrong : ChangeSpec := { name := "nfcSame", fn := fun _ => fun
  | [d1, d2] => { results := [.lit (.bool false)], args := [d1, d2] }
  | _ => none }
def NfcSameWrongFalsely : Prop := nfcSameRow.holds Try.pinned (OpenSpec.ofChange nfcSameWrong)

/- THE SECOND FORM. 'bulk': how many values and letters a reading holds, each counted each time it is reached (what is shared counts as often as it is met; a slice's spare places count too). A statement '..UptoSaid' is the law's where the arguments, and the package variables that the reading takes, are together of bulk at most 1048576: NARROWER than '..Said'. Prove '..Said' where nothing that the law and all that it calls make is longer than what came in: it says more and counts as full. Else prove '..UptoSaid'. A law counts once. -/
mutual
def uptoBulk {H : Type} : DataW H → Nat
  | .lit (.string bytes) => bytes.length + 1
  | .lit _ => 1
  | .nil => 1
  | .ptr d => uptoBulk d + 1
  | .slice elems spare => uptoBulkAll elems + uptoBulkAll spare + 1
  | .agg parts => uptoBulkAll parts + 1
  | .iface _ d => uptoBulk d + 1
  | .map entries => uptoBulkEntries entries + 1
  | .held _ => 1
def uptoBulkAll {H : Type} : List (DataW H) → Nat
  | [] => 0
  | d :: r => uptoBulk d + uptoBulkAll r
def uptoBulkEntries {H : Type} : List (Lit × DataW H) → Nat
  | [] => 0
  | x :: r => uptoBulkEntry x + uptoBulkEntries r
def uptoBulkEntry {H : Type} : Lit × DataW H → Nat
  | (.string bytes, d) => bytes.length + uptoBulk d + 1
  | (_, d) => uptoBulk d + 1
 end
def uptoSmall : (H : Type) → List (DataW H) → Bool := fun _ ds => decide (uptoBulkAll ds ≤ 1048576)
def OpenSpec.upto (s : _root_.Go.ChangeSpec) : _root_.Go.OpenSpec := { _root_.Go.OpenSpec.ofChange s with cond := some uptoSmall }

/-- 'monikerlaw09.OrderSorts', WHERE WHAT IT READS IS OF BULK AT MOST 1048576: true; the input reads as it did. -/
def orderSortsUptoRow : OpenClaim := { program := "ytclcmkklonnalaa", sum := "8c6200a5393aaa143bbc8899ca69d9af2272758a127feb91aaf707ea75caf5c7", func := "moniker/monikerlaw09.OrderSorts", spec := "orderSorts", unfollowed := true, recurses := true, plainKeys := false, apart := false, narrowed := true }
def OrderSortsUptoSaid : Prop := orderSortsUptoRow.holds Try.pinned (OpenSpec.upto orderSortsSpec)

/-- 'monikerlaw09.OrderRuns', WHERE WHAT IT READS IS OF BULK AT MOST 1048576: true; the input reads as it did. -/
def orderRunsUptoRow : OpenClaim := { program := "ytclcmkklonnalaa", sum := "8c6200a5393aaa143bbc8899ca69d9af2272758a127feb91aaf707ea75caf5c7", func := "moniker/monikerlaw09.OrderRuns", spec := "orderRuns", unfollowed := true, recurses := true, plainKeys := false, apart := false, narrowed := true }
def OrderRunsUptoSaid : Prop := orderRunsUptoRow.holds Try.pinned (OpenSpec.upto orderRunsSpec)

/-- 'monikerlaw09.OrderStarters', WHERE WHAT IT READS IS OF BULK AT MOST 1048576: true; the input reads as it did. -/
def orderStartersUptoRow : OpenClaim := { program := "ytclcmkklonnalaa", sum := "8c6200a5393aaa143bbc8899ca69d9af2272758a127feb91aaf707ea75caf5c7", func := "moniker/monikerlaw09.OrderStarters", spec := "orderStarters", unfollowed := true, recurses := true, plainKeys := false, apart := false, narrowed := true }
def OrderStartersUptoSaid : Prop := orderStartersUptoRow.holds Try.pinned (OpenSpec.upto orderStartersSpec)

/-- 'monikerlaw10.NfcForms', WHERE WHAT IT READS IS OF BULK AT MOST 1048576: true; the input reads as it did. -/
def nfcFormsUptoRow : OpenClaim := { program := "ytclcmkklonnalaa", sum := "8c6200a5393aaa143bbc8899ca69d9af2272758a127feb91aaf707ea75caf5c7", func := "moniker/monikerlaw10.NfcForms", spec := "nfcForms", unfollowed := true, recurses := true, plainKeys := false, apart := false, narrowed := true }
def NfcFormsUptoSaid : Prop := nfcFormsUptoRow.holds Try.pinned (OpenSpec.upto nfcFormsSpec)

/-- 'monikerlaw10.NfcTwice', WHERE WHAT IT READS IS OF BULK AT MOST 1048576: true; the input reads as it did. -/
def nfcTwiceUptoRow : OpenClaim := { program := "ytclcmkklonnalaa", sum := "8c6200a5393aaa143bbc8899ca69d9af2272758a127feb91aaf707ea75caf5c7", func := "moniker/monikerlaw10.NfcTwice", spec := "nfcTwice", unfollowed := true, recurses := true, plainKeys := false, apart := false, narrowed := true }
def NfcTwiceUptoSaid : Prop := nfcTwiceUptoRow.holds Try.pinned (OpenSpec.upto nfcTwiceSpec)

/-- 'monikerlaw10.NfcSame', WHERE WHAT IT READS IS OF BULK AT MOST 1048576: true; the input reads as it did. -/
def nfcSameUptoRow : OpenClaim := { program := "ytclcmkklonnalaa", sum := "8c6200a5393aaa143bbc8899ca69d9af2272758a127feb91aaf707ea75caf5c7", func := "moniker/monikerlaw10.NfcSame", spec := "nfcSame", unfollowed := true, recurses := true, plainKeys := false, apart := false, narrowed := true }
def NfcSameUptoSaid : Prop := nfcSameUptoRow.holds Try.pinned (OpenSpec.upto nfcSameSpec)

end Rows
end Go.Proofs.Ytclcmkklonnalaa
