import Derived.Test.YtbamhbfncddieaaOrd1
import Derived.Test.YtbamhbfncddieaaPr16
import Derived.Test.YtbamhbfncddieaaHan2
namespace Go.Proofs.Ytbamhbfncddieaa
namespace Nf
open Od Pr Ha

/-- A syllable's parts. -/
def sylL (r : Int) : List Int := if talI r = 0 then [ledI r, vowI r] else [ledI r, vowI r, talI r]
/-- What a code point is made of, as the table tells it. -/
def dnP (r : Int) : Pt := rdP r allP
/-- Taken apart, so many times. -/
def apF : Nat → Int → List Int
  | 0, r => [r]
  | n + 1, r => if sylB r = true then sylL r else if (dnP r).2.2 = 1 then apF n (dnP r).1 else if (dnP r).2.2 = 2 then apF n (dnP r).1 ++ apF n (dnP r).2.1 else [r]
/-- As many times as are wanted. -/
def okF : Nat → Int → Bool
  | 0, _ => false
  | n + 1, r => if sylB r = true then true else if (dnP r).2.2 = 1 then okF n (dnP r).1 else if (dnP r).2.2 = 2 then okF n (dnP r).1 && okF n (dnP r).2.1 else true
def apP (r : Int) : List Int := apF 6 r

theorem apF_succ : ∀ (n : Nat) (r : Int), okF n r = true → apF (n + 1) r = apF n r
  | 0, _, h => by cases h
  | n + 1, r, h => by
    simp only [okF] at h
    show (if sylB r = true then sylL r else if (dnP r).2.2 = 1 then apF (n + 1) (dnP r).1 else if (dnP r).2.2 = 2 then apF (n + 1) (dnP r).1 ++ apF (n + 1) (dnP r).2.1 else [r]) = (if sylB r = true then sylL r else if (dnP r).2.2 = 1 then apF n (dnP r).1 else if (dnP r).2.2 = 2 then apF n (dnP r).1 ++ apF n (dnP r).2.1 else [r])
    by_cases h1 : sylB r = true
    · rw [if_pos h1, if_pos h1]
    · rw [if_neg h1] at h ⊢
      rw [if_neg h1]
      by_cases h2 : (dnP r).2.2 = 1
      · rw [if_pos h2] at h ⊢
        rw [if_pos h2, apF_succ n _ h]
      · rw [if_neg h2] at h ⊢
        rw [if_neg h2]
        by_cases h3 : (dnP r).2.2 = 2
        · rw [if_pos h3, Bool.and_eq_true] at h
          rw [if_pos h3, if_pos h3, apF_succ n _ h.1, apF_succ n _ h.2]
        · rw [if_neg h3, if_neg h3]

/-- What is not in the table is made of nothing. -/
theorem dn_out (r : Int) (h : ∀ x ∈ allP, x.1 ≠ r) : dnP r = (0, 0, 0) := rd_none r allP h
set_option maxRecDepth 1000000 in
theorem rows_ok : allP.all (fun x => okF 5 x.1) = true := by kernel_rfl
set_option maxRecDepth 1000000 in
theorem rows_atoms : allP.all (fun x => (apF 6 x.1).all (fun y => apF 6 y == [y])) = true := by kernel_rfl
set_option maxRecDepth 1000000 in
theorem rows_far : allP.all (fun x => !(decide (4352 ≤ x.1) && decide (x.1 ≤ 4546)) && !sylB x.1) = true := by kernel_rfl
end Nf
end Go.Proofs.Ytbamhbfncddieaa
