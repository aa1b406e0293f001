import Derived.Test.YtemdmalcoemhnaaOrd3
namespace Go.Proofs.Ytemdmalcoemhnaa
namespace Od
open Go.RowKit

theorem Pw.put' {c : Int → Int} {P Q : List Int} {x : Int} (h : Pw c (P ++ Q)) (h1 : ∀ p ∈ P, c p ≤ c x) (h2 : ∀ q ∈ Q, c x ≤ c q) : Pw c (P ++ x :: Q) := by
  unfold Pw at h ⊢
  rw [List.pairwise_append] at h ⊢
  refine ⟨h.1, List.pairwise_cons.2 ⟨h2, h.2.1⟩, fun p hp q hq => ?_⟩
  rcases List.mem_cons.1 hq with rfl | hq
  · exact h1 p hp
  · exact h.2.2 p hp q hq

/-- A list, parted at a place of its middle. -/
theorem mid_part (M : List Int) (k : Nat) (h : k < M.length) : ∃ M1 y M2, M = M1 ++ y :: M2 ∧ M1.length = k := ⟨M.take k, M[k], M.drop (k + 1), by rw [← List.drop_eq_getElem_cons h, List.take_append_drop], by rw [List.length_take]; omega⟩

end Od
end Go.Proofs.Ytemdmalcoemhnaa
