import Derived.Test.YtbamhbfncddieaaHan1
import Derived.ChangeKeysEq
namespace Go.Proofs.Ytbamhbfncddieaa.Ha
open Go.RowKit

theorem tal_zero (r : Int) (h1 : 44032 ≤ r) (h2 : r ≤ 55203) : (talI r == 0) = opnB r := by
  have hs : sylB r = true := decide_eq_true (by omega)
  unfold opnB talI
  rw [hs, Bool.true_and, Bool.eq_iff_iff]
  simp only [beq_iff_eq, decide_eq_true_eq]
  split <;> omega

/-- The reference's join. -/
def rjI (a b : Int) : Int := if lvB a b = true then lvI a b else if otB a b = true then otI a b else -1

end Go.Proofs.Ytbamhbfncddieaa.Ha
