import Derived.Test.YtemdmalcoemhnaaOrd13
namespace Go.Proofs.Ytemdmalcoemhnaa
namespace Od
open Go.RowKit
end Od
end Go.Proofs.Ytemdmalcoemhnaa
