import Derived.Test.YteimhepmcjdbpaaGreatDoorIp19
namespace Go.Proofs.YteimhepmcjdbpaaGreatDoor
open Go.RowKit
namespace Ip

/-- Two colons at a place. -/
def ccB (l : List UInt8) (k : Nat) : Bool := [58, 58].isPrefixOf (l.drop k)
theorem cc_none : ∀ l : List UInt8, (∀ j, j < l.length → ccB l j = false) → (cuG [58, 58] l).2.2 = false := by
  intro l
  induction l with
  | nil => intro _; rfl
  | cons a l ih =>
    intro h
    have h0 := h 0 (by simp)
    unfold cuG
    rw [if_neg (by unfold ccB at h0; rw [List.drop_zero] at h0; rw [h0]; decide)]
    exact ih (fun j hj => h (j + 1) (by simpa using hj))
theorem cc_first : ∀ (n : Nat) (l : List UInt8), n < l.length → ccB l n = true → (∀ j, j < n → ccB l j = false) → cuG [58, 58] l = (l.take n, l.drop (n + 2), true) := by
  intro n
  induction n with
  | zero =>
    intro l hl h1 _
    cases l with
    | nil => simp at hl
    | cons a l =>
      unfold ccB at h1
      rw [List.drop_zero] at h1
      unfold cuG
      rw [if_pos h1]; rfl
  | succ n ih =>
    intro l hl h1 h2
    cases l with
    | nil => simp at hl
    | cons a l =>
      have h0 := h2 0 (by omega)
      unfold cuG
      rw [if_neg (by unfold ccB at h0; rw [List.drop_zero] at h0; rw [h0]; decide)]
      rw [ih l (by simpa using hl) h1 (fun j hj => h2 (j + 1) (by omega))]
      rfl
/-- Where the first two colons stand among the first k places. -/
def ccI (l : List UInt8) : Nat → Int
  | 0 => -1
  | k + 1 => if ccI l k < 0 ∧ ccB l k = true then (k : Int) else ccI l k
theorem ccI_no (l : List UInt8) : ∀ k, ccI l k < 0 → ccI l k = -1 ∧ ∀ j, j < k → ccB l j = false := by
  intro k
  induction k with
  | zero => intro _; exact ⟨rfl, fun j hj => absurd hj (by omega)⟩
  | succ k ih =>
    intro h
    unfold ccI at h ⊢
    by_cases hc : ccI l k < 0 ∧ ccB l k = true
    · rw [if_pos hc] at h; omega
    · rw [if_neg hc] at h ⊢
      obtain ⟨h1, h2⟩ := ih h
      refine ⟨h1, fun j hj => ?_⟩
      by_cases e : j = k
      · subst e
        cases hb : ccB l j
        · rfl
        · exact absurd ⟨h, hb⟩ hc
      · exact h2 j (by omega)
theorem ccI_yes (l : List UInt8) : ∀ k, 0 ≤ ccI l k → ∃ n : Nat, ccI l k = n ∧ n < k ∧ ccB l n = true ∧ ∀ j, j < n → ccB l j = false := by
  intro k
  induction k with
  | zero => intro h; unfold ccI at h; omega
  | succ k ih =>
    intro h
    unfold ccI at h ⊢
    by_cases hc : ccI l k < 0 ∧ ccB l k = true
    · rw [if_pos hc]
      exact ⟨k, rfl, by omega, hc.2, (ccI_no l k hc.1).2⟩
    · rw [if_neg hc] at h ⊢
      obtain ⟨n, h1, h2, h3, h4⟩ := ih h
      exact ⟨n, h1, by omega, h3, h4⟩
theorem cc_last (l : List UInt8) (j : Nat) (h : l.length ≤ j + 1) : ccB l j = false := by
  unfold ccB
  have : (l.drop j).length ≤ 1 := by rw [List.length_drop]; omega
  match hd : l.drop j, this with
  | [], _ => rfl
  | [a], _ => simp [List.isPrefixOf]
theorem cc_ext (s : ByteArray) (k : Nat) (h : k + 1 < s.size) : ((s.extract k (k + 2)).toList == (⟨#[58, 58]⟩ : ByteArray).toList) = ccB s.data.toList k := by
  rw [ByteArray.toList_eq, ByteArray.toList_eq]
  have e : (s.extract k (k + 2)).data.toList = [s[k], s[k + 1]] := by
    rw [ext_list, dropS s k (by omega), dropS s (k + 1) h]
    have : k + 2 - k = 2 := by omega
    rw [this]; rfl
  rw [e]
  unfold ccB
  rw [dropS s k (by omega), dropS s (k + 1) h]
  simp only [List.isPrefixOf, Bool.and_true]
  have sym : ∀ x y : UInt8, (x == y) = (y == x) := fun x y => by
    rw [Bool.eq_iff_iff, beq_iff_eq, beq_iff_eq]; exact eq_comm
  show (s[k] == 58 && ((s[k + 1] == 58) && true)) = _
  rw [Bool.and_true, sym s[k], sym s[k + 1]]

end Ip
end Go.Proofs.YteimhepmcjdbpaaGreatDoor
