import Derived.Test.YtefokpmoekkcnabPr10
namespace Go.Proofs.Ytefokpmoekkcnab.Pr
open Go.RowKit Go.Lib
end Go.Proofs.Ytefokpmoekkcnab.Pr
