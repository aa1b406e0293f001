import Derived.Test.YtbamhbfncddieaaPr15
namespace Go.Proofs.Ytbamhbfncddieaa.Pr
open Go.RowKit

theorem rd_of_mem : ∀ (L : List R3), distB L = true → ∀ x ∈ L, rdP x.1 L = valP x
  | [], _, x, hx => by simp at hx
  | y :: L, hd, x, hx => by
    simp only [distB, Bool.and_eq_true] at hd
    unfold rdP
    rcases List.mem_cons.1 hx with rfl | hx
    · rw [if_pos rfl]
    · have := List.all_eq_true.1 hd.1 x hx
      rw [if_neg (fun e => by simp [e] at this)]
      exact rd_of_mem L hd.2 x hx
theorem rd_none (r : Int) : ∀ (L : List R3), (∀ x ∈ L, x.1 ≠ r) → rdP r L = (0, 0, 0)
  | [], _ => rfl
  | y :: L, h => by
    unfold rdP
    rw [if_neg (h y (by simp))]
    exact rd_none r L (fun x hx => h x (by simp [hx]))
theorem rd_dn (r : Int) : rdP r allP = (dnF allP r).getD (0, 0, 0) := by
  cases hd : dnF allP r with
  | some v =>
    obtain ⟨R, hR, rfl, rfl⟩ := dn_mem allP r v hd
    exact rd_of_mem allP all_dist R hR
  | none =>
    refine rd_none r allP (fun x hx e => ?_)
    have := dn_of_mem allP all_dist x hx
    rw [e, hd] at this; cases this
theorem rex_eq (r : Int) : rexq allP r = exq r := by unfold rexq exq exF; rw [rd_dn]
theorem rex_skip (x : R3) (hx : x ∈ allP) : rexq allP x.1 = skipB x := by
  unfold rexq skipB
  rw [rd_of_mem allP all_dist x hx]
  unfold valP
  simp only
  by_cases h : x.2.2 = 0
  · rw [if_pos h, h]; rfl
  · rw [if_neg h]
    have : (x.2.2 == 0) = false := by simpa using h
    rw [this]; rfl
theorem rs_any (r : Int) : ∀ (L : List R3), (∀ x ∈ L, x ∈ allP) → (rsB allP r L = true ↔ ∃ x ∈ L, skipB x = false ∧ x.2.2 = r)
  | [], _ => by simp [rsB]
  | y :: L, h => by
    have ih := rs_any r L (fun x hx => h x (by simp [hx]))
    unfold rsB
    rw [rex_skip y (h y (by simp))]
    split
    · rename_i hh
      constructor
      · intro _; exact ⟨y, by simp, hh.2.2, hh.1⟩
      · intro _; rfl
    · rename_i hh
      rw [ih]
      constructor
      · rintro ⟨x, hx, h1⟩; exact ⟨x, by simp [hx], h1⟩
      · rintro ⟨x, hx, h1, h2⟩
        rcases List.mem_cons.1 hx with rfl | hx
        · exfalso
          have h3 : x.2.2 ≠ 0 := by
            unfold skipB at h1
            rw [Bool.or_eq_false_iff] at h1
            simpa using h1.1
          exact hh ⟨h2, by rw [← h2]; exact h3, h1⟩
        · exact ⟨x, hx, h1, h2⟩
theorem rs_eq (r : Int) : rsB allP r allP = s1 r := by
  rw [Bool.eq_iff_iff, rs_any r allP (fun _ h => h)]
  unfold s1
  rw [decide_eq_true_eq, sc_pos]

theorem rup_mem (a b : Int) : ∀ (L : List R3), (∀ x ∈ L, x ∈ allP) → (∃ x ∈ L, skipB x = false ∧ x.2.1 = a ∧ x.2.2 = b ∧ rupP allP a b L = x.1) ∨ ((∀ x ∈ L, ¬ (skipB x = false ∧ x.2.1 = a ∧ x.2.2 = b)) ∧ rupP allP a b L = -1)
  | [], _ => .inr ⟨fun x hx => by simp at hx, rfl⟩
  | y :: L, h => by
    unfold rupP
    rw [rex_skip y (h y (by simp))]
    split
    · rename_i hh
      exact .inl ⟨y, by simp, hh.2.2.2, hh.1, hh.2.1, rfl⟩
    · rename_i hh
      rcases rup_mem a b L (fun x hx => h x (by simp [hx])) with ⟨x, hx, h1⟩ | ⟨h1, h2⟩
      · exact .inl ⟨x, by simp [hx], h1⟩
      · refine .inr ⟨fun x hx hc => ?_, h2⟩
        rcases List.mem_cons.1 hx with rfl | hx
        · have h3 : x.2.2 ≠ 0 := by
            have h4 := hc.1
            unfold skipB at h4
            rw [Bool.or_eq_false_iff] at h4
            simpa using h4.1
          exact hh ⟨hc.2.1, hc.2.2, by rw [← hc.2.2]; exact h3, hc.1⟩
        · exact h1 x hx hc
theorem rup_eq (a b : Int) : (u2 a b = true ∧ rupP allP a b allP = u1 a b ∧ 0 ≤ u1 a b) ∨ (u2 a b = false ∧ u1 a b = 0 ∧ rupP allP a b allP = -1) := by
  rcases rup_mem a b allP (fun _ h => h) with ⟨x, hx, h1, h2, h3, h4⟩ | ⟨h1, h2⟩
  · have := up_of_mem allP all_udist x hx h1
    rw [h2, h3] at this
    left
    unfold u1 u2
    rw [this]
    refine ⟨rfl, h4, ?_⟩
    have := List.all_eq_true.1 all_okR x hx
    simp only [okR, Bool.and_eq_true, decide_eq_true_eq] at this
    show 0 ≤ x.1
    omega
  · right
    have hn : upF allP (a, b) = none := by
      cases hu : upF allP (a, b) with
      | none => rfl
      | some z =>
        obtain ⟨R, hR, hs, e, _⟩ := up_mem allP _ z hu
        simp only [Prod.mk.injEq] at e
        exact absurd ⟨hs, e.1.symm, e.2.symm⟩ (h1 R hR)
    unfold u1 u2
    rw [hn]
    exact ⟨rfl, rfl, h2⟩
end Go.Proofs.Ytbamhbfncddieaa.Pr
