import Derived.Test.YtpegpagdhaijjaaPr9
namespace Go.Proofs.Ytpegpagdhaijjaa.Pr
open Go.RowKit Go.Lib
end Go.Proofs.Ytpegpagdhaijjaa.Pr
