import Derived.Test.YtefokpmoekkcnabGreatPr10
namespace Go.Proofs.YtefokpmoekkcnabGreat.Pr
open Go.RowKit Go.Lib
end Go.Proofs.YtefokpmoekkcnabGreat.Pr
