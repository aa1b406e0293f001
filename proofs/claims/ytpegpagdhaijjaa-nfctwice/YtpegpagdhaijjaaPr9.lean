import Derived.Test.YtpegpagdhaijjaaPr8
import Derived.Great.BuildSlice
import Derived.Deep.WholeRow
namespace Go.Proofs.Ytpegpagdhaijjaa.Pr
open Go.RowKit Go.Lib Go.Great
end Go.Proofs.Ytpegpagdhaijjaa.Pr
