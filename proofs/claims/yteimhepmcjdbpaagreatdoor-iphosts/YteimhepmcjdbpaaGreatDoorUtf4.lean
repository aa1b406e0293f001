import Derived.Test.YteimhepmcjdbpaaGreatDoorUtf3
namespace Go.Proofs.YteimhepmcjdbpaaGreatDoor
open Go.RowKit

/-- How many scalar values and faults there are from a place on. -/
def countF (l : List UInt8) : Nat → Nat → Nat
  | 0, _ => 0
  | f + 1, i => if i < l.length then 1 + countF l f (i + fit (l.drop i)) else 0
def countL (l : List UInt8) : Nat := countF l l.length 0

theorem countF_end (l : List UInt8) (f i : Nat) (h : ¬ i < l.length) : countF l f i = 0 := by
  cases f with
  | zero => rfl
  | succ f => simp [countF, h]

theorem countF_le (l : List UInt8) : ∀ f i, i ≤ l.length → countF l f i ≤ l.length - i
  | 0, i, _ => by simp [countF]
  | f + 1, i, hi => by
    unfold countF
    split
    · rename_i h
      have hne : l.drop i ≠ [] := by intro e; have := congrArg List.length e; simp at this; omega
      have h1 := (fit_spec (l.drop i)).1
      have h2 := fit_le (l.drop i) hne
      simp at h2
      have := countF_le l f (i + fit (l.drop i)) (by omega)
      omega
    · omega

theorem bt_drop (l : List UInt8) (i j : Nat) : bt (l.drop i) j = bt l (i + j) := by
  unfold bt; rw [List.getD_eq_getElem?_getD, List.getD_eq_getElem?_getD, List.getElem?_drop]

theorem goOn_cont (l : List UInt8) (j : Nat) (h1 : 1 ≤ j) (h : goOn l j) : 128 ≤ bt l j ∧ bt l j ≤ 191 := by
  unfold goOn at h
  rcases rowB_cases (bt l 0) (bt_lt l 0) with ⟨c, e⟩ | ⟨c, c', e⟩ | ⟨c, e⟩ | ⟨c, c', e⟩ | ⟨c, e⟩ | ⟨c, c', e⟩ | ⟨c, e⟩ | ⟨c, c', e⟩ | ⟨c, e⟩ | ⟨c, e⟩
  all_goals
    rw [e] at h
    simp only at h
    obtain ⟨a, _, b, d⟩ := h
    split at b <;> split at d <;> omega

theorem cont_bad (l : List UInt8) (h : 128 ≤ bt l 0 ∧ bt l 0 ≤ 191) : okL l = false := by
  cases e : okL l with
  | false => rfl
  | true =>
    have := ((okL_iff l).1 e).2
    have f1 := (fit_spec l).1
    have r : rowB (bt l 0) = (0, 0, 0) := by
      rcases rowB_cases (bt l 0) (bt_lt l 0) with ⟨c, e⟩ | ⟨c, c', e⟩ | ⟨c, e⟩ | ⟨c, c', e⟩ | ⟨c, e⟩ | ⟨c, c', e⟩ | ⟨c, e⟩ | ⟨c, c', e⟩ | ⟨c, e⟩ | ⟨c, e⟩ <;> first | exact e | omega
    rw [r] at this; simp at this; omega

end Go.Proofs.YteimhepmcjdbpaaGreatDoor
