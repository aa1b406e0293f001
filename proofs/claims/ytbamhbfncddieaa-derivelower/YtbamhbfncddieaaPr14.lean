import Derived.Test.YtbamhbfncddieaaPr13
import Derived.Great.CaseRows
namespace Go.Proofs.Ytbamhbfncddieaa.Pr
open Go.RowKit Go.Great

/-- The place in the Go text that a function's first and second region name. -/
def posA (f : Func) : String :=
  match f.body with
  | some (.seq (.region _ ops _) _) => (ops[0]?.map (fun o => o.pos)).getD ""
  | _ => ""
def posB (f : Func) : String :=
  match f.body with
  | some (.seq _ (.seq (.region _ ops _) _)) => (ops[0]?.map (fun o => o.pos)).getD ""
  | _ => ""

/-- A row of the reference: three ints. -/
def rc3 (x : R3) : List Value := [.int .i64 x.1, .int .i64 x.2.1, .int .i64 x.2.2]

theorem rc3_len (l : List R3) : (l.flatMap rc3).length = l.length * 3 := by
  induction l with
  | nil => rfl
  | cons x l ih => simp only [List.flatMap_cons, List.length_append, ih, List.length_cons, rc3, List.length_nil]; omega
theorem rc3_one (l : List R3) : ∀ u ∈ l.flatMap rc3, u.oneCell' = true := by
  intro u hu
  obtain ⟨x, _, hx⟩ := List.mem_flatMap.1 hu
  simp [rc3] at hx
  rcases hx with rfl | rfl | rfl <;> rfl

theorem parts_all : singT ++ pairT0 ++ pairT1 ++ pairT2 ++ pairT3 ++ pairT4 ++ pairT5 ++ pairT6 = allP := by unfold allP pairT; simp only [List.append_assoc]

end Go.Proofs.Ytbamhbfncddieaa.Pr
