import Derived.Test.YtclcmkklonnalaaGreatPr10
namespace Go.Proofs.YtclcmkklonnalaaGreat.Pr
open Go.RowKit Go.Lib
end Go.Proofs.YtclcmkklonnalaaGreat.Pr
