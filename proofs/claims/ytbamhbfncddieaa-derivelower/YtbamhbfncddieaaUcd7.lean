import Derived.Test.YtbamhbfncddieaaUcd6
namespace Go.Proofs.Ytbamhbfncddieaa.Uc
open Go.RowKit

/-- The rows of a line that is even or odd, from a code point on: n of them. -/
def caseRows (x : Ln) : Int → Nat → List (SRow Tr)
  | _, 0 => []
  | r, n + 1 => ⟨r, r, hasP x (caseP x r)⟩ :: caseRows x (r + 1) n

/-- The rows of a line. -/
def lineRows (x : Ln) : List (SRow Tr) :=
  if x.2.2.1 ≠ 12 ∧ x.2.2.1 ≠ 13 then [⟨x.1, x.2.1, hasP x x.2.2.1⟩] else caseRows x x.1 (x.2.1 - x.1 + 1).toNat

/-- The rows of the table's lines. -/
def asgP (T : List Ln) : List (SRow Tr) := T.flatMap lineRows

/-- A row of what isn't in the table in each gap; the next code point is known. -/
def fillP : Int → List (SRow Tr) → List (SRow Tr)
  | next, [] => if next ≤ 1114111 then [⟨next, 1114111, zTr⟩] else []
  | next, x :: xs => if next < x.f then ⟨next, x.f - 1, zTr⟩ :: x :: fillP (x.t + 1) xs else x :: fillP (x.t + 1) xs

/-- The rows of the book. -/
def bookL : List (SRow Tr) := fillP 0 (asgP allT)

set_option maxRecDepth 1000000 in
theorem book_check : check bookL = 0 := by kernel_rfl
set_option maxRecDepth 1000000 in
theorem book_len : Nat.ble bookL.length 4096 = true := by kernel_rfl
set_option maxRecDepth 1000000 in
theorem book_awake : Awake bookL := ⟨by kernel_rfl, by kernel_rfl, by kernel_rfl, by kernel_rfl, by kernel_rfl⟩
end Go.Proofs.Ytbamhbfncddieaa.Uc
