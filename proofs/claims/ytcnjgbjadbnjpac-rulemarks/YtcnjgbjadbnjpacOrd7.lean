import Derived.Test.YtcnjgbjadbnjpacOrd6
namespace Go.Proofs.Ytcnjgbjadbnjpac
namespace Od
open Go.RowKit

end Od
end Go.Proofs.Ytcnjgbjadbnjpac
