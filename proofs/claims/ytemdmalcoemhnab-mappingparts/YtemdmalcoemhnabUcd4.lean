import Derived.Test.YtemdmalcoemhnabUcd3
namespace Go.Proofs.Ytemdmalcoemhnab.Uc
open Go.RowKit Go.Great

/-- All lines, in the chapter's order. -/
def allT : List Ln := latinT ++ marksT ++ arabicT ++ devT ++ lastT

/-- A row of the reference: the same seven numbers, each an int. -/
def rcells7 (x : Ln) : List Value := [.int .i64 x.1, .int .i64 x.2.1, .int .i64 x.2.2.1, .int .i64 x.2.2.2.1, .int .i64 x.2.2.2.2.1, .int .i64 x.2.2.2.2.2.1, .int .i64 x.2.2.2.2.2.2]

/-- The reference's rows are the program's lines, cut by thirties. -/
def part (i : Nat) : List Ln := (allT.drop (30 * i)).take 30

end Go.Proofs.Ytemdmalcoemhnab.Uc
