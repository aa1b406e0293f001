import Derived.Test.YtclcmkklonnalaaPr10
namespace Go.Proofs.Ytclcmkklonnalaa.Pr
open Go.RowKit Go.Lib
end Go.Proofs.Ytclcmkklonnalaa.Pr
