import Derived.Test.YtpegpagdhaijjaaPr10
namespace Go.Proofs.Ytpegpagdhaijjaa.Pr
open Go.RowKit Go.Lib
end Go.Proofs.Ytpegpagdhaijjaa.Pr
