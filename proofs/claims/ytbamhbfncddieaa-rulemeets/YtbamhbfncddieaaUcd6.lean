import Derived.Test.YtbamhbfncddieaaUcd5
namespace Go.Proofs.Ytbamhbfncddieaa.Uc
open Go.RowKit

/-- A row of the reference as a value. -/
def rlv (x : Ln) : Value := .agg (rcells7 x).toArray

/-- The kind of a code point in a row. -/
def rkindP (x : Ln) (r : Int) : Int := if x.2.2.1 = 12 then wrap64 (1 + r.tmod 2) else if x.2.2.1 = 13 then wrap64 (2 - r.tmod 2) else x.2.2.1

end Go.Proofs.Ytbamhbfncddieaa.Uc
