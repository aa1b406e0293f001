/-
  No cell of these rows narrows 'for every input' (looked for: loops, veiled, ifaces, maps, wideKeys, modest, calm, conditions, laid).
  DERIVED. THE GIVEN ROWS OF THIS SEAT. 9 by the template 'for every input the law returns true; each argument reads behind the call as it read before'; 0 by the template 'total and deterministic' (their statements: YtkhipgcgcbhjoaaGreatTotals.lean).
  GIVEN WITH THE SEED: the statements are not yours to turn. If you find one false, say at which input.
  Laid BY PROGRAM, IN A SANDBOX (cutbox-rows.mjs): the forced cells as the released guide's own fill.sh prints them over the translation b5504561a2d1f9ab… (all of the seat's roots in one cut). By AI agents, Wed Nov 11 2026. No macro, syntax, notation, axiom, sorry.
-/
import Derived.Test.YtkhipgcgcbhjoaaGreatChecked
import GoSem.Claim
import GoSem.ClaimJoined
import GoSem.ClaimMapViews
import Derived.JoinedTies
import Derived.KernelRfl
namespace Go.Proofs.YtkhipgcgcbhjoaaGreat
/- THE CELL 'sum', in the pinned program and in every row, IS THE sha256 OF THE DUMP (.gsa) THAT YtkhipgcgcbhjoaaGreatProg.lean LOADS. Nothing in Lean hashes anything: it is a label: what it is worth is what the hold of that sum in a sandbox is worth. -/
noncomputable def Tryz.pinned : Pinned := { name := "ytkhipgcgcbhjoaagreat", sum := "b5504561a2d1f9ab4490cab0ab6a177411157a2eff8f6e3eda06c21462e418a7", checked := Tryz.checked }
namespace Rows
def none {H : Type} : Left H := { results := [], args := [] }

/-- 'monikerlaw16.LabelFaults': WHATEVER THE INPUT: true; the input reads as it did. -/
def labelFaultsSpec : ChangeSpec := { name := "labelFaults", fn := fun _ => fun
  | [d] => { results := [.lit (.bool true)], args := [d] }
  | _ => none }
def labelFaultsRow : OpenClaim := { program := "ytkhipgcgcbhjoaagreat", sum := "b5504561a2d1f9ab4490cab0ab6a177411157a2eff8f6e3eda06c21462e418a7", func := "moniker/monikerlaw16.LabelFaults", spec := "labelFaults", inPlace := ["internal/bytealg.IndexByteString"], unfollowed := true, recurses := true, plainKeys := false, apart := false }
def LabelFaultsSaid : Prop := labelFaultsRow.holds Tryz.pinned (OpenSpec.ofChange labelFaultsSpec)

/-- ITS FALSE NEIGHBOUR: 'it returns false'. Refute it at one input. -/
def labelFaultsWrong : ChangeSpec := { name := "labelFaults", fn := fun _ => fun
  | [d] => { results := [.lit (.bool false)], args := [d] }
  | _ => none }
def LabelFaultsWrongFalsely : Prop := labelFaultsRow.holds Tryz.pinned (OpenSpec.ofChange labelFaultsWrong)

/-- 'monikerlaw16.LabelOld': WHATEVER THE INPUT: true; the input reads as it did. -/
def labelOldSpec : ChangeSpec := { name := "labelOld", fn := fun _ => fun
  | [d] => { results := [.lit (.bool true)], args := [d] }
  | _ => none }
def labelOldRow : OpenClaim := { program := "ytkhipgcgcbhjoaagreat", sum := "b5504561a2d1f9ab4490cab0ab6a177411157a2eff8f6e3eda06c21462e418a7", func := "moniker/monikerlaw16.LabelOld", spec := "labelOld", inPlace := ["internal/bytealg.IndexByteString"], unfollowed := true, recurses := true, plainKeys := false, apart := false }
def LabelOldSaid : Prop := labelOldRow.holds Tryz.pinned (OpenSpec.ofChange labelOldSpec)

/-- ITS FALSE NEIGHBOUR: 'it returns false'. Refute it at one input. -/
def labelOldWrong : ChangeSpec := { name := "labelOld", fn := fun _ => fun
  | [d] => { results := [.lit (.bool false)], args := [d] }
  | _ => none }
def LabelOldWrongFalsely : Prop := labelOldRow.holds Tryz.pinned (OpenSpec.ofChange labelOldWrong)

/-- 'monikerlaw16.LabelMakes': WHATEVER THE INPUT: true; the input reads as it did. -/
def labelMakesSpec : ChangeSpec := { name := "labelMakes", fn := fun _ => fun
  | [d1, d2] => { results := [.lit (.bool true)], args := [d1, d2] }
  | _ => none }
def labelMakesRow : OpenClaim := { program := "ytkhipgcgcbhjoaagreat", sum := "b5504561a2d1f9ab4490cab0ab6a177411157a2eff8f6e3eda06c21462e418a7", func := "moniker/monikerlaw16.LabelMakes", spec := "labelMakes", inPlace := ["internal/bytealg.IndexByteString"], unfollowed := true, recurses := true, plainKeys := false, apart := false }
def LabelMakesSaid : Prop := labelMakesRow.holds Tryz.pinned (OpenSpec.ofChange labelMakesSpec)

/-- ITS FALSE NEIGHBOUR: 'it returns false'. Refute it at one input. -/
def labelMakesWrong : ChangeSpec := { name := "labelMakes", fn := fun _ => fun
  | [d1, d2] => { results := [.lit (.bool false)], args := [d1, d2] }
  | _ => none }
def LabelMakesWrongFalsely : Prop := labelMakesRow.holds Tryz.pinned (OpenSpec.ofChange labelMakesWrong)

/-- 'monikerlaw16.LabelReads': WHATEVER THE INPUT: true; the input reads as it did. -/
def labelReadsSpec : ChangeSpec := { name := "labelReads", fn := fun _ => fun
  | [d1, d2] => { results := [.lit (.bool true)], args := [d1, d2] }
  | _ => none }
def labelReadsRow : OpenClaim := { program := "ytkhipgcgcbhjoaagreat", sum := "b5504561a2d1f9ab4490cab0ab6a177411157a2eff8f6e3eda06c21462e418a7", func := "moniker/monikerlaw16.LabelReads", spec := "labelReads", inPlace := ["internal/bytealg.IndexByteString"], unfollowed := true, recurses := true, plainKeys := false, apart := false }
def LabelReadsSaid : Prop := labelReadsRow.holds Tryz.pinned (OpenSpec.ofChange labelReadsSpec)

/-- ITS FALSE NEIGHBOUR: 'it returns false'. Refute it at one input. -/
def labelReadsWrong : ChangeSpec := { name := "labelReads", fn := fun _ => fun
  | [d1, d2] => { results := [.lit (.bool false)], args := [d1, d2] }
  | _ => none }
def LabelReadsWrongFalsely : Prop := labelReadsRow.holds Tryz.pinned (OpenSpec.ofChange labelReadsWrong)

/-- 'monikerlaw17.DomainNames': WHATEVER THE INPUT: true; the input reads as it did. -/
def domainNamesSpec : ChangeSpec := { name := "domainNames", fn := fun _ => fun
  | [d] => { results := [.lit (.bool true)], args := [d] }
  | _ => none }
def domainNamesRow : OpenClaim := { program := "ytkhipgcgcbhjoaagreat", sum := "b5504561a2d1f9ab4490cab0ab6a177411157a2eff8f6e3eda06c21462e418a7", func := "moniker/monikerlaw17.DomainNames", spec := "domainNames", inPlace := ["internal/abi.NoEscape", "internal/bytealg.IndexByteString", "internal/bytealg.MakeNoZero"], unfollowed := true, recurses := true, plainKeys := false, apart := false }
def DomainNamesSaid : Prop := domainNamesRow.holds Tryz.pinned (OpenSpec.ofChange domainNamesSpec)

/-- ITS FALSE NEIGHBOUR: 'it returns false'. Refute it at one input. -/
def domainNamesWrong : ChangeSpec := { name := "domainNames", fn := fun _ => fun
  | [d] => { results := [.lit (.bool false)], args := [d] }
  | _ => none }
def DomainNamesWrongFalsely : Prop := domainNamesRow.holds Tryz.pinned (OpenSpec.ofChange domainNamesWrong)

/-- 'monikerlaw17.DomainWhy': WHATEVER THE INPUT: true; the input reads as it did. -/
def domainWhySpec : ChangeSpec := { name := "domainWhy", fn := fun _ => fun
  | [d] => { results := [.lit (.bool true)], args := [d] }
  | _ => none }
def domainWhyRow : OpenClaim := { program := "ytkhipgcgcbhjoaagreat", sum := "b5504561a2d1f9ab4490cab0ab6a177411157a2eff8f6e3eda06c21462e418a7", func := "moniker/monikerlaw17.DomainWhy", spec := "domainWhy", inPlace := ["internal/abi.NoEscape", "internal/bytealg.IndexByteString", "internal/bytealg.MakeNoZero"], unfollowed := true, recurses := true, plainKeys := false, apart := false }
def DomainWhySaid : Prop := domainWhyRow.holds Tryz.pinned (OpenSpec.ofChange domainWhySpec)

/-- ITS FALSE NEIGHBOUR: 'it returns false'. Refute it at one input. -/
def domainWhyWrong : ChangeSpec := { name := "domainWhy", fn := fun _ => fun
  | [d] => { results := [.lit (.bool false)], args := [d] }
  | _ => none }
def DomainWhyWrongFalsely : Prop := domainWhyRow.holds Tryz.pinned (OpenSpec.ofChange domainWhyWrong)

/-- 'monikerlaw17.DomainTwice': WHATEVER THE INPUT: true; the input reads as it did. -/
def domainTwiceSpec : ChangeSpec := { name := "domainTwice", fn := fun _ => fun
  | [d] => { results := [.lit (.bool true)], args := [d] }
  | _ => none }
def domainTwiceRow : OpenClaim := { program := "ytkhipgcgcbhjoaagreat", sum := "b5504561a2d1f9ab4490cab0ab6a177411157a2eff8f6e3eda06c21462e418a7", func := "moniker/monikerlaw17.DomainTwice", spec := "domainTwice", inPlace := ["internal/abi.NoEscape", "internal/bytealg.IndexByteString", "internal/bytealg.MakeNoZero"], unfollowed := true, recurses := true, plainKeys := false, apart := false }
def DomainTwiceSaid : Prop := domainTwiceRow.holds Tryz.pinned (OpenSpec.ofChange domainTwiceSpec)

/-- ITS FALSE NEIGHBOUR: 'it returns false'. Refute it at one input. -/
def domainTwiceWrong : ChangeSpec := { name := "domainTwice", fn := fun _ => fun
  | [d] => { results := [.lit (.bool false)], args := [d] }
  | _ => none }
def DomainTwiceWrongFalsely : Prop := domainTwiceRow.holds Tryz.pinned (OpenSpec.ofChange domainTwiceWrong)

/-- 'monikerlaw17.DomainSame': WHATEVER THE INPUT: true; the input reads as it did. -/
def domainSameSpec : ChangeSpec := { name := "domainSame", fn := fun _ => fun
  | [d1, d2] => { results := [.lit (.bool true)], args := [d1, d2] }
  | _ => none }
def domainSameRow : OpenClaim := { program := "ytkhipgcgcbhjoaagreat", sum := "b5504561a2d1f9ab4490cab0ab6a177411157a2eff8f6e3eda06c21462e418a7", func := "moniker/monikerlaw17.DomainSame", spec := "domainSame", inPlace := ["internal/abi.NoEscape", "internal/bytealg.IndexByteString", "internal/bytealg.MakeNoZero"], unfollowed := true, recurses := true, plainKeys := false, apart := false }
def DomainSameSaid : Prop := domainSameRow.holds Tryz.pinned (OpenSpec.ofChange domainSameSpec)

/-- ITS FALSE NEIGHBOUR: 'it returns false'. Refute it at one input. -/
def domainSameWrong : ChangeSpec := { name := "domainSame", fn := fun _ => fun
  | [d1, d2] => { results := [.lit (.bool false)], args := [d1, d2] }
  | _ => none }
def DomainSameWrongFalsely : Prop := domainSameRow.holds Tryz.pinned (OpenSpec.ofChange domainSameWrong)

/-- 'monikerlaw17.DomainLong': WHATEVER THE INPUT: true; the input reads as it did. -/
def domainLongSpec : ChangeSpec := { name := "domainLong", fn := fun _ => fun
  | [d1, d2] => { results := [.lit (.bool true)], args := [d1, d2] }
  | _ => none }
def domainLongRow : OpenClaim := { program := "ytkhipgcgcbhjoaagreat", sum := "b5504561a2d1f9ab4490cab0ab6a177411157a2eff8f6e3eda06c21462e418a7", func := "moniker/monikerlaw17.DomainLong", spec := "domainLong", inPlace := ["internal/abi.NoEscape", "internal/bytealg.IndexByteString", "internal/bytealg.MakeNoZero"], unfollowed := true, recurses := true, plainKeys := false, apart := false }
def DomainLongSaid : Prop := domainLongRow.holds Tryz.pinned (OpenSpec.ofChange domainLongSpec)

/-- ITS FALSE NEIGHBOUR: 'it returns false'. Refute it at one input. -/
def domainLongWrong : ChangeSpec := { name := "domainLong", fn := fun _ => fun
  | [d1, d2] => { results := [.lit (.bool false)], args := [d1, d2] }
  | _ => none }
def DomainLongWrongFalsely : Prop := domainLongRow.holds Tryz.pinned (OpenSpec.ofChange domainLongWrong)

/- THE SECOND FORM. 'bulk': how many values and letters a reading holds, each counted each time it is reached (what is shared counts as often as it is met; a slice's spare places count too). A statement '..UptoSaid' is the law's where the arguments, and the package variables that the reading takes, are together of bulk at most 1048576: NARROWER than '..Said'. Prove '..Said' where nothing that the law and all that it calls make is longer than what came in: it says more and counts as full. Else prove '..UptoSaid'. A law counts once. -/
mutual
def uptoBulk {H : Type} : DataW H → Nat
  | .lit (.string bytes) => bytes.length + 1
  | .lit _ => 1
  | .nil => 1
  | .ptr d => uptoBulk d + 1
  | .slice elems spare => uptoBulkAll elems + uptoBulkAll spare + 1
  | .agg parts => uptoBulkAll parts + 1
  | .iface _ d => uptoBulk d + 1
  | .map entries => uptoBulkEntries entries + 1
  | .held _ => 1
def uptoBulkAll {H : Type} : List (DataW H) → Nat
  | [] => 0
  | d :: r => uptoBulk d + uptoBulkAll r
def uptoBulkEntries {H : Type} : List (Lit × DataW H) → Nat
  | [] => 0
  | x :: r => uptoBulkEntry x + uptoBulkEntries r
def uptoBulkEntry {H : Type} : Lit × DataW H → Nat
  | (.string bytes, d) => bytes.length + uptoBulk d + 1
  | (_, d) => uptoBulk d + 1
 end
def uptoSmall : (H : Type) → List (DataW H) → Bool := fun _ ds => decide (uptoBulkAll ds ≤ 1048576)
def OpenSpec.upto (s : _root_.Go.ChangeSpec) : _root_.Go.OpenSpec := { _root_.Go.OpenSpec.ofChange s with cond := some uptoSmall }

/-- 'monikerlaw16.LabelFaults', WHERE WHAT IT READS IS OF BULK AT MOST 1048576: true; the input reads as it did. -/
def labelFaultsUptoRow : OpenClaim := { program := "ytkhipgcgcbhjoaagreat", sum := "b5504561a2d1f9ab4490cab0ab6a177411157a2eff8f6e3eda06c21462e418a7", func := "moniker/monikerlaw16.LabelFaults", spec := "labelFaults", inPlace := ["internal/bytealg.IndexByteString"], unfollowed := true, recurses := true, plainKeys := false, apart := false, narrowed := true }
def LabelFaultsUptoSaid : Prop := labelFaultsUptoRow.holds Tryz.pinned (OpenSpec.upto labelFaultsSpec)

/-- 'monikerlaw16.LabelOld', WHERE WHAT IT READS IS OF BULK AT MOST 1048576: true; the input reads as it did. -/
def labelOldUptoRow : OpenClaim := { program := "ytkhipgcgcbhjoaagreat", sum := "b5504561a2d1f9ab4490cab0ab6a177411157a2eff8f6e3eda06c21462e418a7", func := "moniker/monikerlaw16.LabelOld", spec := "labelOld", inPlace := ["internal/bytealg.IndexByteString"], unfollowed := true, recurses := true, plainKeys := false, apart := false, narrowed := true }
def LabelOldUptoSaid : Prop := labelOldUptoRow.holds Tryz.pinned (OpenSpec.upto labelOldSpec)

/-- 'monikerlaw16.LabelMakes', WHERE WHAT IT READS IS OF BULK AT MOST 1048576: true; the input reads as it did. -/
def labelMakesUptoRow : OpenClaim := { program := "ytkhipgcgcbhjoaagreat", sum := "b5504561a2d1f9ab4490cab0ab6a177411157a2eff8f6e3eda06c21462e418a7", func := "moniker/monikerlaw16.LabelMakes", spec := "labelMakes", inPlace := ["internal/bytealg.IndexByteString"], unfollowed := true, recurses := true, plainKeys := false, apart := false, narrowed := true }
def LabelMakesUptoSaid : Prop := labelMakesUptoRow.holds Tryz.pinned (OpenSpec.upto labelMakesSpec)

/-- 'monikerlaw16.LabelReads', WHERE WHAT IT READS IS OF BULK AT MOST 1048576: true; the input reads as it did. -/
def labelReadsUptoRow : OpenClaim := { program := "ytkhipgcgcbhjoaagreat", sum := "b5504561a2d1f9ab4490cab0ab6a177411157a2eff8f6e3eda06c21462e418a7", func := "moniker/monikerlaw16.LabelReads", spec := "labelReads", inPlace := ["internal/bytealg.IndexByteString"], unfollowed := true, recurses := true, plainKeys := false, apart := false, narrowed := true }
def LabelReadsUptoSaid : Prop := labelReadsUptoRow.holds Tryz.pinned (OpenSpec.upto labelReadsSpec)

/-- 'monikerlaw17.DomainNames', WHERE WHAT IT READS IS OF BULK AT MOST 1048576: true; the input reads as it did. -/
def domainNamesUptoRow : OpenClaim := { program := "ytkhipgcgcbhjoaagreat", sum := "b5504561a2d1f9ab4490cab0ab6a177411157a2eff8f6e3eda06c21462e418a7", func := "moniker/monikerlaw17.DomainNames", spec := "domainNames", inPlace := ["internal/abi.NoEscape", "internal/bytealg.IndexByteString", "internal/bytealg.MakeNoZero"], unfollowed := true, recurses := true, plainKeys := false, apart := false, narrowed := true }
def DomainNamesUptoSaid : Prop := domainNamesUptoRow.holds Tryz.pinned (OpenSpec.upto domainNamesSpec)

/-- 'monikerlaw17.DomainWhy', WHERE WHAT IT READS IS OF BULK AT MOST 1048576: true; the input reads as it did. -/
def domainWhyUptoRow : OpenClaim := { program := "ytkhipgcgcbhjoaagreat", sum := "b5504561a2d1f9ab4490cab0ab6a177411157a2eff8f6e3eda06c21462e418a7", func := "moniker/monikerlaw17.DomainWhy", spec := "domainWhy", inPlace := ["internal/abi.NoEscape", "internal/bytealg.IndexByteString", "internal/bytealg.MakeNoZero"], unfollowed := true, recurses := true, plainKeys := false, apart := false, narrowed := true }
def DomainWhyUptoSaid : Prop := domainWhyUptoRow.holds Tryz.pinned (OpenSpec.upto domainWhySpec)

/-- 'monikerlaw17.DomainTwice', WHERE WHAT IT READS IS OF BULK AT MOST 1048576: true; the input reads as it did. -/
def domainTwiceUptoRow : OpenClaim := { program := "ytkhipgcgcbhjoaagreat", sum := "b5504561a2d1f9ab4490cab0ab6a177411157a2eff8f6e3eda06c21462e418a7", func := "moniker/monikerlaw17.DomainTwice", spec := "domainTwice", inPlace := ["internal/abi.NoEscape", "internal/bytealg.IndexByteString", "internal/bytealg.MakeNoZero"], unfollowed := true, recurses := true, plainKeys := false, apart := false, narrowed := true }
def DomainTwiceUptoSaid : Prop := domainTwiceUptoRow.holds Tryz.pinned (OpenSpec.upto domainTwiceSpec)

/-- 'monikerlaw17.DomainSame', WHERE WHAT IT READS IS OF BULK AT MOST 1048576: true; the input reads as it did. -/
def domainSameUptoRow : OpenClaim := { program := "ytkhipgcgcbhjoaagreat", sum := "b5504561a2d1f9ab4490cab0ab6a177411157a2eff8f6e3eda06c21462e418a7", func := "moniker/monikerlaw17.DomainSame", spec := "domainSame", inPlace := ["internal/abi.NoEscape", "internal/bytealg.IndexByteString", "internal/bytealg.MakeNoZero"], unfollowed := true, recurses := true, plainKeys := false, apart := false, narrowed := true }
def DomainSameUptoSaid : Prop := domainSameUptoRow.holds Tryz.pinned (OpenSpec.upto domainSameSpec)

/-- 'monikerlaw17.DomainLong', WHERE WHAT IT READS IS OF BULK AT MOST 1048576: true; the input reads as it did. -/
def domainLongUptoRow : OpenClaim := { program := "ytkhipgcgcbhjoaagreat", sum := "b5504561a2d1f9ab4490cab0ab6a177411157a2eff8f6e3eda06c21462e418a7", func := "moniker/monikerlaw17.DomainLong", spec := "domainLong", inPlace := ["internal/abi.NoEscape", "internal/bytealg.IndexByteString", "internal/bytealg.MakeNoZero"], unfollowed := true, recurses := true, plainKeys := false, apart := false, narrowed := true }
def DomainLongUptoSaid : Prop := domainLongUptoRow.holds Tryz.pinned (OpenSpec.upto domainLongSpec)

end Rows
end Go.Proofs.YtkhipgcgcbhjoaaGreat
