import Derived.Test.YtclcmkklonnalaaPr8
import Derived.Great.BuildSlice
import Derived.Deep.WholeRow
namespace Go.Proofs.Ytclcmkklonnalaa.Pr
open Go.RowKit Go.Lib Go.Great
end Go.Proofs.Ytclcmkklonnalaa.Pr
