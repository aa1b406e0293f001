import Derived.Test.YtemdmalcoemhnaaOrd6
namespace Go.Proofs.Ytemdmalcoemhnaa
namespace Od
open Go.RowKit

end Od
end Go.Proofs.Ytemdmalcoemhnaa
