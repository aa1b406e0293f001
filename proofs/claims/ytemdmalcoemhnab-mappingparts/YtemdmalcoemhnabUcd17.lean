import Derived.Test.YtemdmalcoemhnabUcd16
namespace Go.Proofs.Ytemdmalcoemhnab.Uc
open Go.RowKit

/-- What the first row with r says; else z. -/
def fstT (z : Tr) (r : Int) : List (SRow Tr) → Tr
  | [] => z
  | x :: xs => if x.f ≤ r ∧ r ≤ x.t then x.v else fstT z r xs

theorem at_low : ∀ (l : List (SRow Tr)) (a r : Int) (z : Tr), Rising a l → r ≤ a → at' z l r = z
  | [], _, _, _, _, _ => rfl
  | x :: l, a, r, z, h, hr => by
    obtain ⟨h1, h2, h3, h4⟩ := h
    rw [at_cons, if_neg (by omega)]
    exact at_low l x.t r z h4 (by omega)
theorem fst_low : ∀ (l : List (SRow Tr)) (a r : Int) (z : Tr), Rising a l → r ≤ a → fstT z r l = z
  | [], _, _, _, _, _ => rfl
  | x :: l, a, r, z, h, hr => by
    obtain ⟨h1, h2, h3, h4⟩ := h
    rw [fstT, if_neg (by omega)]
    exact fst_low l x.t r z h4 (by omega)
theorem fst_high : ∀ (l : List (SRow Tr)) (a r : Int) (z : Tr), Rising a l → 1114111 < r → fstT z r l = z
  | [], _, _, _, _, _ => rfl
  | x :: l, a, r, z, h, hr => by
    obtain ⟨h1, h2, h3, h4⟩ := h
    rw [fstT, if_neg (by omega)]
    exact fst_high l x.t r z h4 hr
theorem fst_at : ∀ (l : List (SRow Tr)) (a r : Int) (z : Tr), Rising a l → fstT z r l = at' z l r
  | [], _, _, _, _ => rfl
  | x :: l, a, r, z, h => by
    obtain ⟨h1, h2, h3, h4⟩ := h
    rw [at_cons, fstT]
    split
    · rename_i hm
      exact (at_low l x.t r _ h4 hm.2).symm
    · exact fst_at l x.t r z h4
theorem get_fst {z : Tr} {l : List (SRow Tr)} (h : Rising (-1) l) (r : Int) : getV z l r = fstT z r l := by
  unfold getV
  split
  · rename_i hr
    rcases hr with hr | hr
    · exact (fst_low l (-1) r z h (by omega)).symm
    · exact (fst_high l (-1) r z h hr).symm
  · exact (fst_at l (-1) r z h).symm

theorem book_rising : Rising (-1) bookL := by
  refine rising_of_chk bookL (-1) (by omega) ?_
  have h := book_check
  unfold check at h
  split at h
  · exact absurd h (by decide)
  · exact h
set_option maxRecDepth 1000000 in
theorem asg_chk : chk (-1) (asgP allT) = 0 := by kernel_rfl
theorem asg_rising : Rising (-1) (asgP allT) := rising_of_chk _ (-1) (by omega) asg_chk

/-- Rows in the gaps that say nothing. -/
theorem fst_fill : ∀ (l : List (SRow Tr)) (n r : Int), Rising (n - 1) l → fstT zTr r (fillP n l) = fstT zTr r l
  | [], n, r, _ => by
    unfold fillP
    split
    · simp only [fstT]; split <;> rfl
    · rfl
  | x :: l, n, r, h => by
    obtain ⟨h1, h2, h3, h4⟩ := h
    have ih := fst_fill l (x.t + 1) r (by rw [show x.t + 1 - 1 = x.t by omega]; exact h4)
    unfold fillP
    split
    · rename_i hg
      simp only [fstT]
      by_cases hm : n ≤ r ∧ r ≤ x.f - 1
      · rw [if_pos hm, if_neg (by omega)]
        exact (fst_low l x.t r zTr h4 (by omega)).symm
      · rw [if_neg hm, ih]
    · simp only [fstT]; rw [ih]

/-- What a row of the reference says of a code point. -/
def trOf (x : Ln) (r : Int) : Tr := hasP x (rkindP x r)
theorem trOf_z (r : Int) : trOf zLn r = zTr := rfl

theorem case_kind (x : Ln) (r : Int) (h0 : 0 ≤ r) (h : x.2.2.1 = 12 ∨ x.2.2.1 = 13) : caseP x r = rkindP x r := by
  unfold caseP rkindP
  have hm : r.tmod 2 = 0 ∨ r.tmod 2 = 1 := by
    rw [Int.tmod_eq_emod_of_nonneg h0]; omega
  rcases h with h | h <;> rw [h] <;> rcases hm with hm | hm <;> rw [hm] <;> simp [wrap64]

theorem fst_cases (x : Ln) (h : x.2.2.1 = 12 ∨ x.2.2.1 = 13) (l : List (SRow Tr)) (r : Int) : ∀ (n : Nat) (a : Int), 0 ≤ a → fstT zTr r (caseRows x a n ++ l) = if a ≤ r ∧ r < a + n then trOf x r else fstT zTr r l
  | 0, a, _ => by rw [if_neg (by omega)]; rfl
  | n + 1, a, ha => by
    have ih := fst_cases x h l r n (a + 1) (by omega)
    simp only [caseRows, List.cons_append, fstT]
    by_cases hr : a ≤ r ∧ r ≤ a
    · have e : r = a := by omega
      rw [if_pos hr, if_pos (by omega), e, case_kind x a ha h]; rfl
    · rw [if_neg hr, ih]
      by_cases hm : a + 1 ≤ r ∧ r < a + 1 + n
      · rw [if_pos hm, if_pos (by omega)]
      · rw [if_neg hm, if_neg (by omega)]

theorem fst_line (x : Ln) (h0 : 0 ≤ x.1) (l : List (SRow Tr)) (r : Int) : fstT zTr r (lineRows x ++ l) = if x.1 ≤ r ∧ r ≤ x.2.1 then trOf x r else fstT zTr r l := by
  unfold lineRows
  split
  · rename_i h
    simp only [List.cons_append, List.nil_append, fstT]
    have e : trOf x r = hasP x x.2.2.1 := by
      unfold trOf rkindP
      rw [if_neg h.1, if_neg h.2]
    rw [e]
  · rename_i h
    rw [fst_cases x (by omega) l r _ _ h0]
    by_cases hm : x.1 ≤ r ∧ r ≤ x.2.1
    · rw [if_pos hm, if_pos (by omega)]
    · rw [if_neg hm, if_neg (by omega)]

theorem fst_find (r : Int) : ∀ (T : List Ln), (∀ x ∈ T, 0 ≤ x.1) → fstT zTr r (asgP T) = trOf (findL r T) r
  | [], _ => rfl
  | x :: T, h => by
    have ih := fst_find r T (fun y hy => h y (List.mem_cons_of_mem _ hy))
    have e : asgP (x :: T) = lineRows x ++ asgP T := by unfold asgP; rw [List.flatMap_cons]
    rw [e, fst_line x (h x (List.mem_cons_self ..)), findL]
    split
    · rfl
    · exact ih

theorem find_left (r : Int) : ∀ (A B : List Ln), (∀ x ∈ B, r < x.1) → findL r (A ++ B) = findL r A
  | [], B, h => by
    induction B with
    | nil => rfl
    | cons x B ih =>
      have := h x (List.mem_cons_self ..)
      rw [List.nil_append]
      show (if x.1 ≤ r ∧ r ≤ x.2.1 then x else findL r B) = findL r []
      rw [if_neg (by omega)]
      exact ih (fun y hy => h y (List.mem_cons_of_mem _ hy))
  | x :: A, B, h => by
    rw [List.cons_append, findL, findL, find_left r A B h]
theorem find_right (r : Int) : ∀ (A B : List Ln), (∀ x ∈ A, x.2.1 < r) → findL r (A ++ B) = findL r B
  | [], _, _ => rfl
  | x :: A, B, h => by
    have := h x (List.mem_cons_self ..)
    rw [List.cons_append]
    show (if x.1 ≤ r ∧ r ≤ x.2.1 then x else findL r (A ++ B)) = findL r B
    rw [if_neg (by omega)]
    exact find_right r A B (fun y hy => h y (List.mem_cons_of_mem _ hy))

theorem find_cut (r : Int) (i : Nat) (T : List Ln) (lo hi : Int) (h1 : (T.take (30 * i)).all (fun x => decide (x.2.1 ≤ lo)) = true) (h2 : (T.drop (30 * i + 30)).all (fun x => decide (hi < x.1)) = true) (hl : lo < r) (hh : r ≤ hi) : findL r T = findL r ((T.drop (30 * i)).take 30) := by
  have e : T = T.take (30 * i) ++ ((T.drop (30 * i)).take 30 ++ T.drop (30 * i + 30)) := by
    rw [← List.drop_drop, List.take_append_drop, List.take_append_drop]
  conv => lhs; rw [e]
  rw [find_right r _ _ (fun x hx => by have := of_decide_eq_true (List.all_eq_true.1 h1 x hx); omega)]
  exact find_left r _ _ (fun x hx => by have := of_decide_eq_true (List.all_eq_true.1 h2 x hx); omega)

set_option maxRecDepth 1000000 in
theorem all_most : allT.all (fun x => decide (x.2.1 ≤ 1114109)) = true := by kernel_rfl

set_option maxRecDepth 1000000 in
theorem rrow_find (r : Int) : rrowP r = findL r allT := by
  unfold rrowP
  split
  · exact (find_cut r 0 allT (r - 1) 184 rfl (by kernel_rfl) (by omega) ‹_›).symm
  split
  · exact (find_cut r 1 allT 184 819 (by kernel_rfl) (by kernel_rfl) (by omega) ‹_›).symm
  split
  · exact (find_cut r 2 allT 819 1576 (by kernel_rfl) (by kernel_rfl) (by omega) ‹_›).symm
  split
  · exact (find_cut r 3 allT 1576 1747 (by kernel_rfl) (by kernel_rfl) (by omega) ‹_›).symm
  split
  · exact (find_cut r 4 allT 1747 12293 (by kernel_rfl) (by kernel_rfl) (by omega) ‹_›).symm
  split
  · exact (find_cut r 5 allT 12293 128591 (by kernel_rfl) (by kernel_rfl) (by omega) ‹_›).symm
  split
  · exact (find_cut r 6 allT 128591 1114109 (by kernel_rfl) (by kernel_rfl) (by omega) ‹_›).symm
  · rename_i h
    have := find_right r allT [] (fun x hx => by have := of_decide_eq_true (List.all_eq_true.1 all_most x hx); omega)
    rw [List.append_nil] at this
    exact this.symm

theorem book_tells (r : Int) : getV zTr bookL r = trOf (rrowP r) r := by
  rw [get_fst book_rising, rrow_find, ← fst_find r allT (fun x hx => (all_bd x hx).1)]
  exact fst_fill (asgP allT) 0 r asg_rising
end Go.Proofs.Ytemdmalcoemhnab.Uc
