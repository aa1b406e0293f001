import Derived.Test.YtefokpmoekkcnabGreatPr8
import Derived.Great.BuildSlice
import Derived.Deep.WholeRow
namespace Go.Proofs.YtefokpmoekkcnabGreat.Pr
open Go.RowKit Go.Lib Go.Great
end Go.Proofs.YtefokpmoekkcnabGreat.Pr
