import Derived.Test.YtemdmalcoemhnaaOrd7
namespace Go.Proofs.Ytemdmalcoemhnaa
namespace Od
open Go.RowKit

/-- Pieces of one length, each in order; the last may be shorter. -/
inductive Chs (c : Int → Int) (s : Nat) : List Int → Prop
  | last (l : List Int) (h : l.length ≤ s) (hp : Pw c l) : Chs c s l
  | cons (x l : List Int) (h : x.length = s) (hp : Pw c x) (hl : Chs c s l) : Chs c s (x ++ l)
inductive Full (c : Int → Int) (s : Nat) : List Int → Prop
  | nil : Full c s []
  | snoc (P x : List Int) (hP : Full c s P) (h : x.length = s) (hp : Pw c x) : Full c s (P ++ x)
theorem Full.chs {c : Int → Int} {s : Nat} {P : List Int} (h : Full c s P) : ∀ {Q : List Int}, Chs c s Q → Chs c s (P ++ Q) := by
  induction h with
  | nil => intro Q hQ; exact hQ
  | snoc P x _ h hp ih => intro Q hQ; rw [List.append_assoc]; exact ih (.cons x Q h hp hQ)
theorem Chs.head {c : Int → Int} {s : Nat} {Q : List Int} (h : Chs c s Q) (hs : s ≤ Q.length) : ∃ x Q', Q = x ++ Q' ∧ x.length = s ∧ Pw c x ∧ Chs c s Q' := by
  cases h with
  | last _ h hp => exact ⟨Q, [], by simp, by omega, hp, .last [] (Nat.zero_le _) List.Pairwise.nil⟩
  | cons x l h hp hl => exact ⟨x, l, rfl, h, hp, hl⟩
theorem Chs.small {c : Int → Int} {s : Nat} {Q : List Int} (h : Chs c s Q) (hs : Q.length ≤ s) : Pw c Q := by
  cases h with
  | last _ h hp => exact hp
  | cons x l h hp hl =>
    have : l = [] := List.eq_nil_of_length_eq_zero (by rw [List.length_append] at hs; omega)
    rw [this, List.append_nil]; exact hp

end Od
end Go.Proofs.Ytemdmalcoemhnaa
