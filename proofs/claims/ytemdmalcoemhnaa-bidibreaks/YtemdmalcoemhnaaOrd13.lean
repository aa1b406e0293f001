import Derived.Test.YtemdmalcoemhnaaOrd12
namespace Go.Proofs.Ytemdmalcoemhnaa
namespace Od
open Go.RowKit

attribute [local go_sem] Oper.semAt_some
end Od
end Go.Proofs.Ytemdmalcoemhnaa
