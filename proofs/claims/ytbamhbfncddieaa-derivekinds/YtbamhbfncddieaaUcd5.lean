import Derived.Test.YtbamhbfncddieaaUcd4
namespace Go.Proofs.Ytbamhbfncddieaa.Uc
open Go.RowKit

/-- How many code points are of a kind, the number ahead known. -/
def cntP (k : Int) : Int → List (SRow Tr) → Int
  | n, [] => n
  | n, x :: xs => cntP k (if x.v.a = k then wrap64 (n + wrap64 (wrap64 (wrap32 (x.t - x.f)) + 1)) else n) xs

section
variable {w : World} {b : Nat} {L : List (SRow Tr)} {p : Nat} {rv : Value}


/-- The least code point from r on that is of a kind. -/
def nextP (r k : Int) : List (SRow Tr) → Int × Bool
  | [] => (0, false)
  | x :: xs => if r ≤ x.t then if x.v.a = k then (max x.f r, true) else nextP r k xs else nextP r k xs

end
end Go.Proofs.Ytbamhbfncddieaa.Uc
