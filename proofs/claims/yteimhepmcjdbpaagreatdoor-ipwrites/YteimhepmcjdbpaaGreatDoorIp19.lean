import Derived.Test.YteimhepmcjdbpaaGreatDoorIp18
namespace Go.Proofs.YteimhepmcjdbpaaGreatDoor
open Go.RowKit
namespace Ip

/-- An IPv6 address, as the document reads it. -/
def rv6L (l : List UInt8) : List Int × Bool :=
  if (cuG [58, 58] l).2.2 = false then (match roL l with | some ws => if ws.length = 8 then (ws, true) else (z8, false) | none => (z8, false))
  else match roL (cuG [58, 58] l).1, roL (cuG [58, 58] l).2.1 with
    | some hs, some ts => if hs.length + ts.length ≤ 7 ∧ ¬ (46 : UInt8) ∈ (cuG [58, 58] l).1 then (hs ++ List.replicate (8 - hs.length - ts.length) 0 ++ ts, true) else (z8, false)
    | _, _ => (z8, false)

theorem reL_ro (l : List UInt8) : reL true l = match roL l with | some ws => if ws.length ≤ 8 then some ws else none | none => none := by
  unfold reL roL
  by_cases h : l = []
  · rw [if_pos h, if_pos h]; rfl
  · rw [if_neg h, if_neg h]
    unfold reS reQ
    cases reP true (paL 58 l) with
    | none => rfl
    | some vs => simp
theorem reP_false : ∀ ps : List (List UInt8), reP false ps = if ∃ p ∈ ps, (46 : UInt8) ∈ p then none else reP true ps := by
  intro ps
  induction ps with
  | nil => rw [if_neg (by rintro ⟨p, hp, _⟩; cases hp)]; rfl
  | cons p ps ih =>
    rw [reP, reP]
    by_cases hw : 0 ≤ woL p
    · have hp : ¬ (46 : UInt8) ∈ p := by
        intro h46
        unfold woL at hw
        split at hw
        · rename_i hc
          have := List.all_eq_true.1 hc.2.2 46 h46
          exact absurd this (by decide)
        · omega
      rw [if_pos hw, if_pos hw, ih]
      by_cases he : ∃ q ∈ ps, (46 : UInt8) ∈ q
      · obtain ⟨q, hq, h46⟩ := he
        rw [if_pos ⟨q, hq, h46⟩, if_pos ⟨q, List.mem_cons_of_mem _ hq, h46⟩]
      · rw [if_neg he, if_neg]
        rintro ⟨q, hq, h46⟩
        rcases List.mem_cons.1 hq with e | e
        · exact hp (e ▸ h46)
        · exact he ⟨q, e, h46⟩
    · rw [if_neg hw, if_neg hw, if_neg (by rintro ⟨_, _, h⟩; cases h)]
      by_cases he : ∃ q ∈ p :: ps, (46 : UInt8) ∈ q
      · rw [if_pos he]
      · rw [if_neg he, if_neg]
        rintro ⟨h4, _, _⟩
        refine he ⟨p, List.mem_cons_self .., ?_⟩
        by_cases hm : (46 : UInt8) ∈ p
        · exact hm
        · unfold v4L at h4
          rw [paL_one 46 p hm] at h4
          exact absurd h4 Bool.false_ne_true
theorem paL_in : ∀ l : List UInt8, (∃ p ∈ paL 58 l, (46 : UInt8) ∈ p) ↔ (46 : UInt8) ∈ l := by
  intro l
  induction l with
  | nil => simp [paL]
  | cons a l ih =>
    have hne := paL_ne 58 l
    unfold paL
    cases h : paL 58 l with
    | nil => exact absurd h hne
    | cons x t =>
      rw [h] at ih
      by_cases ha : a = 58
      · rw [if_pos ha]
        subst ha
        simp only [List.mem_cons, exists_eq_or_imp, List.not_mem_nil, false_or] at ih ⊢
        rw [ih]
        constructor
        · exact fun h => .inr h
        · rintro (h | h)
          · exact absurd h (by decide)
          · exact h
      · rw [if_neg ha]
        simp only [List.mem_cons, exists_eq_or_imp, List.headD_cons, List.tail_cons] at ih ⊢
        rw [← ih]
        constructor
        · rintro ((h | h) | h)
          · exact .inl h
          · exact .inr (.inl h)
          · exact .inr (.inr h)
        · rintro (h | h | h)
          · exact .inl (.inl h)
          · exact .inl (.inr h)
          · exact .inr h
theorem reL_false (l : List UInt8) : reL false l = if (46 : UInt8) ∈ l then none else reL true l := by
  unfold reL
  by_cases h : l = []
  · subst h; rfl
  · rw [if_neg h, if_neg h]
    unfold reS
    rw [reP_false]
    by_cases h46 : (46 : UInt8) ∈ l
    · rw [if_pos h46, if_pos ((paL_in l).2 h46)]
    · rw [if_neg h46, if_neg (fun e => h46 ((paL_in l).1 e))]
theorem rv6_is (l : List UInt8) : rv6L l = v6L l := by
  unfold rv6L v6L
  rw [reL_false, reL_ro, reL_ro, reL_ro]
  cases (cuG [58, 58] l).2.2
  · rw [if_pos rfl, if_pos rfl]
    cases roL l with
    | none => rfl
    | some ws =>
      show (if _ then _ else _) = _
      by_cases h : ws.length ≤ 8
      · simp only [if_pos h]
      · simp only [if_neg h]
        rw [if_neg (by omega)]
  · rw [if_neg (by decide), if_neg (by decide)]
    generalize (cuG [58, 58] l).1 = x
    generalize (cuG [58, 58] l).2.1 = y
    by_cases h46 : (46 : UInt8) ∈ x
    · rw [if_pos h46]
      cases roL x <;> cases roL y <;> simp [h46]
    · rw [if_neg h46]
      cases roL x with
      | none => cases roL y <;> rfl
      | some hs =>
        cases roL y with
        | none =>
          by_cases h1 : hs.length ≤ 8
          · simp only [if_pos h1]
          · simp only [if_neg h1]
        | some ts =>
          show (if _ then _ else _) = _
          by_cases h : hs.length + ts.length ≤ 7
          · have h1 : hs.length ≤ 8 := by omega
            have h2 : ts.length ≤ 8 := by omega
            simp only [if_pos h1, if_pos h2]
            rw [if_pos ⟨h, h46⟩, if_pos (by omega)]
          · rw [if_neg (fun e => h e.1)]
            by_cases h1 : hs.length ≤ 8
            · by_cases h2 : ts.length ≤ 8
              · simp only [if_pos h1, if_pos h2]
                rw [if_neg (by omega)]
              · simp only [if_pos h1, if_neg h2]
            · simp only [if_neg h1]
end Ip
end Go.Proofs.YteimhepmcjdbpaaGreatDoor
