import Derived.Test.YtpegpagdhaijjaaNfc0
namespace Go.Proofs.Ytpegpagdhaijjaa
namespace Nf
open Od Pr Ha

theorem ok5 (r : Int) : okF 5 r = true := by
  by_cases h : ∃ x ∈ allP, x.1 = r
  · obtain ⟨x, hx, rfl⟩ := h
    exact List.all_eq_true.1 rows_ok x hx
  · have e := dn_out r (fun x hx e => h ⟨x, hx, e⟩)
    simp only [okF]
    rw [e]
    simp
/-- Taken apart. -/
theorem ap_eq (r : Int) : apP r = if sylB r = true then sylL r else if (dnP r).2.2 = 1 then apP (dnP r).1 else if (dnP r).2.2 = 2 then apP (dnP r).1 ++ apP (dnP r).2.1 else [r] := by
  have e : ∀ x, apF 5 x = apP x := fun x => (apF_succ 5 x (ok5 x)).symm
  show (if sylB r = true then sylL r else if (dnP r).2.2 = 1 then apF 5 (dnP r).1 else if (dnP r).2.2 = 2 then apF 5 (dnP r).1 ++ apF 5 (dnP r).2.1 else [r]) = _
  rw [e, e]
theorem dn_d (r : Int) : d1 r = (dnP r).1 ∧ d2 r = (dnP r).2.1 ∧ d3 r = (dnP r).2.2 := by
  unfold d1 d2 d3 dnP
  rw [rd_dn]
  exact ⟨rfl, rfl, rfl⟩
theorem ap_plain (r : Int) (h1 : sylB r = false) (h2 : ∀ x ∈ allP, x.1 ≠ r) : apP r = [r] := by
  rw [ap_eq, if_neg (by rw [h1]; decide), dn_out r h2]
  rfl
theorem far (r : Int) (h : 4352 ≤ r ∧ r ≤ 4546) : ∀ x ∈ allP, x.1 ≠ r := by
  intro x hx e
  have := List.all_eq_true.1 rows_far x hx
  rw [Bool.and_eq_true, Bool.not_eq_true', Bool.and_eq_false_iff, decide_eq_false_iff_not, decide_eq_false_iff_not] at this
  omega
theorem jamo (r : Int) (h : 4352 ≤ r ∧ r ≤ 4546) : apP r = [r] := ap_plain r (decide_eq_false (by omega)) (far r h)
theorem syl_row (x : R3) (hx : x ∈ allP) : sylB x.1 = false := by
  have := List.all_eq_true.1 rows_far x hx
  rw [Bool.and_eq_true, Bool.not_eq_true'] at this
  simpa using this.2
theorem syl_bd {r : Int} (h : sylB r = true) : 44032 ≤ r ∧ r ≤ 55203 := by
  have := of_decide_eq_true h
  omega
theorem sylL_bd {r : Int} (h : sylB r = true) : ∀ y ∈ sylL r, 4352 ≤ y ∧ y ≤ 4546 := by
  have hb := syl_bd h
  have h1 := led_bd r hb
  have h2 := vow_bd r
  have h3 := tal_bd r
  intro y hy
  unfold sylL at hy
  split at hy
  · simp at hy; omega
  · rename_i h4
    have h5 : 4352 ≤ talI r := by
      unfold talI at h4 ⊢
      split at h4
      · rw [if_pos ‹_›]; omega
      · exact absurd rfl h4
    simp at hy
    omega
/-- What is taken apart can't be taken apart any more. -/
theorem ap_atoms (r : Int) : ∀ y ∈ apP r, apP y = [y] := by
  intro y hy
  by_cases h1 : sylB r = true
  · rw [ap_eq, if_pos h1] at hy
    exact jamo y (sylL_bd h1 y hy)
  · by_cases h : ∃ x ∈ allP, x.1 = r
    · obtain ⟨x, hx, rfl⟩ := h
      have := List.all_eq_true.1 (List.all_eq_true.1 rows_atoms x hx) y hy
      show apF 6 y = [y]
      simpa using this
    · have e := ap_plain r (by simpa using h1) (fun x hx e => h ⟨x, hx, e⟩)
      rw [e] at hy
      simp at hy
      subst hy
      exact e
end Nf
end Go.Proofs.Ytpegpagdhaijjaa
