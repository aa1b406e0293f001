import Derived.Test.YtefokpmoekkcnabPr8
import Derived.Great.BuildSlice
import Derived.Deep.WholeRow
namespace Go.Proofs.Ytefokpmoekkcnab.Pr
open Go.RowKit Go.Lib Go.Great
end Go.Proofs.Ytefokpmoekkcnab.Pr
