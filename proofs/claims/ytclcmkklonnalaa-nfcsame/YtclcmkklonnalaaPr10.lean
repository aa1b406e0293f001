import Derived.Test.YtclcmkklonnalaaPr9
namespace Go.Proofs.Ytclcmkklonnalaa.Pr
open Go.RowKit Go.Lib
end Go.Proofs.Ytclcmkklonnalaa.Pr
