import Derived.Test.YtclcmkklonnalaaGreatPr9
namespace Go.Proofs.YtclcmkklonnalaaGreat.Pr
open Go.RowKit Go.Lib
end Go.Proofs.YtclcmkklonnalaaGreat.Pr
