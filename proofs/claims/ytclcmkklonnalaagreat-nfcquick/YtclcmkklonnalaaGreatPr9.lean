import Derived.Test.YtclcmkklonnalaaGreatPr8
import Derived.Great.BuildSlice
import Derived.Deep.WholeRow
namespace Go.Proofs.YtclcmkklonnalaaGreat.Pr
open Go.RowKit Go.Lib Go.Great
end Go.Proofs.YtclcmkklonnalaaGreat.Pr
