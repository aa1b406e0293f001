import Derived.Test.YtemdmalcoemhnaaOrd10
namespace Go.Proofs.Ytemdmalcoemhnaa
namespace Od
open Go.RowKit

/-- A code point's class. -/
def clsP (r : Int) : Int := (Uc.getV Uc.zTr Uc.bookL r).d
/-- The book. -/
def Bk (w : World) (b : Nat) : Prop := ∃ p rv, Uc.Book w b Uc.bookL p rv
theorem Bk.step {w w' : World} {b : Nat} (h : Bk w b) (hb : Below w.heap.size w w') : Bk w' b := by
  obtain ⟨p, rv, h⟩ := h
  exact ⟨p, rv, h.step hb⟩
theorem newbook_any (w : World) : Calls Try.prog 6 #[] w fun e w' => ∃ b, e = .returned (.pointer (some ⟨b, 0, none⟩)) ∧ Below w.heap.size w w' ∧ Bk w' b := by
  refine (Uc.new_any w).mono ?_
  rintro e w' ⟨b, p, rv, he, hb, hB⟩
  exact ⟨b, he, hb, p, rv, hB⟩
theorem book_cls : Uc.bookL.all (fun x => decide (0 ≤ x.v.d) && decide (x.v.d ≤ 255)) = true := by kernel_rfl
theorem cls_bd (r : Int) : 0 ≤ clsP r ∧ clsP r ≤ 255 := by
  have h := Uc.get_or (fun x => decide (0 ≤ x.d) && decide (x.d ≤ 255)) Uc.bookL Uc.zTr r (by decide) book_cls
  rw [Bool.and_eq_true, decide_eq_true_eq, decide_eq_true_eq] at h
  exact h

/-- The place behind the last run that was told. -/
def endOf (pre : List (Nat × Nat)) : Nat := (pre.getLast?.map (·.2)).getD 0
theorem endOf_snoc (pre : List (Nat × Nat)) (x : Nat × Nat) : endOf (pre ++ [x]) = x.2 := by simp [endOf]
/-- What is told next: a run of marks, with starters alone ahead of it. -/
def NextR (c : Int → Int) (l : List Int) (pre : List (Nat × Nat)) (x : Nat × Nat) : Prop :=
  endOf pre ≤ x.1 ∧ x.1 < x.2 ∧ x.2 ≤ l.length ∧ (∀ i (h : i < l.length), endOf pre ≤ i → i < x.1 → c l[i] = 0) ∧ (∀ i (h : i < l.length), x.1 ≤ i → i < x.2 → c l[i] ≠ 0) ∧ (pre = [] ∨ endOf pre < x.1)
def AllR (c : Int → Int) (l : List Int) (xs : List (Nat × Nat)) : Prop := xs = runsP c l ∧ ∀ i (h : i < l.length), endOf xs ≤ i → c l[i] = 0
/-- What the iterator needs: the book, and the runes that it has not seen. -/
structure NeR (b : Nat) (ao : Option Addr) (cap pl pb : Nat) (l : List Int) (pre : List (Nat × Nat)) (W : World) : Prop where
  book : Bk W b
  bl : Bx W pl (.slice ao l.length cap) 22
  bb : Bx W pb (.pointer (some ⟨b, 0, none⟩)) 23
  rest : ∀ i (h : i < l.length), endOf pre ≤ i → ∃ g off, ao = some ⟨g, off, none⟩ ∧ W.cell? ⟨g, off + i, none⟩ = some (.int .i32 l[i])

def toldR (x : Nat × Nat) : Array Value := #[.int .i64 (x.1 : Int), .int .i64 (x.2 : Int)]

/-- What has been told ahead of a place at which none is open. -/
def InvR (c : Int → Int) (l : List Int) (k : Nat) (pre : List (Nat × Nat)) : Prop :=
  (∀ i (h : i < l.length), endOf pre ≤ i → i < k → c l[i] = 0) ∧ endOf pre ≤ k ∧ (pre = [] ∨ endOf pre < k) ∧ (k ≤ l.length → stR c (l.take k) = (pre, none, k)) ∧ (l.length < k → pre = runsP c l)
/-- And within one. -/
def InnR (c : Int → Int) (l : List Int) (k t : Nat) (pre : List (Nat × Nat)) : Prop :=
  (∀ i (h : i < l.length), k ≤ i → i < t → c l[i] ≠ 0) ∧ stR c (l.take t) = (pre, if k < t then some k else none, t)
theorem InvR.start (c : Int → Int) (l : List Int) : InvR c l 0 [] := ⟨fun i h h1 h2 => by omega, Nat.le_refl _, .inl rfl, fun _ => rfl, fun h => by omega⟩
theorem InvR.inn {c : Int → Int} {l : List Int} {k : Nat} {pre : List (Nat × Nat)} (h : InvR c l k pre) (hk : k ≤ l.length) : InnR c l k k pre := ⟨fun i h h1 h2 => by omega, by rw [h.2.2.2.1 hk, if_neg (by omega)]⟩
theorem InnR.mark {c : Int → Int} {l : List Int} {k t : Nat} {pre : List (Nat × Nat)} (h : InnR c l k t pre) (hkt : k ≤ t) (ht : t < l.length) (hc : c l[t] ≠ 0) : InnR c l k (t + 1) pre := by
  refine ⟨fun i hi h1 h2 => ?_, ?_⟩
  · rcases Nat.lt_or_ge i t with h3 | h3
    · exact h.1 i hi h1 h3
    · have : i = t := by omega
      subst this; exact hc
  · rw [stR_take c l t ht, h.2, stepR, if_neg hc]
    have h3 : k < t + 1 := by omega
    by_cases hkt' : k < t
    · simp [hkt', h3]
    · have : k = t := by omega
      simp [this]
theorem InnR.next {c : Int → Int} {l : List Int} {k t : Nat} {pre : List (Nat × Nat)} (hI : InvR c l k pre) (h : InnR c l k t pre) (hkt : k < t) (ht : t ≤ l.length) : NextR c l pre (k, t) :=
  ⟨hI.2.1, hkt, ht, fun i hi h1 h2 => hI.1 i hi h1 h2, fun i hi h1 h2 => h.1 i hi h1 h2, hI.2.2.1⟩
theorem InnR.told {c : Int → Int} {l : List Int} {k t : Nat} {pre : List (Nat × Nat)} (h : InnR c l k t pre) (hkt : k < t) (ht : t ≤ l.length) (he : ∀ (hh : t < l.length), c l[t] = 0) : InvR c l (t + 1) (pre ++ [(k, t)]) := by
  refine ⟨fun i hi h1 h2 => ?_, by rw [endOf_snoc]; exact Nat.le_succ t, .inr (by rw [endOf_snoc]; exact Nat.lt_succ_self t), fun h1 => ?_, fun h1 => ?_⟩
  · rw [endOf_snoc] at h1
    have h1' : t ≤ i := h1
    have : i = t := by omega
    subst this; exact he hi
  · rw [stR_take c l t (by omega), h.2, if_pos hkt, stepR, if_pos (he (by omega))]
  · have : t = l.length := by omega
    subst this
    have h2 := h.2
    rw [List.take_length, if_pos hkt] at h2
    rw [runsP, h2]; rfl
theorem InnR.none_ {c : Int → Int} {l : List Int} {k : Nat} {pre : List (Nat × Nat)} (hI : InvR c l k pre) (hk : k < l.length) (he : c l[k] = 0) : InvR c l (k + 1) pre := by
  refine ⟨fun i hi h1 h2 => ?_, by have := hI.2.1; omega, ?_, fun h1 => ?_, fun h1 => by omega⟩
  · rcases Nat.lt_or_ge i k with h3 | h3
    · exact hI.1 i hi h1 h3
    · have : i = k := by omega
      subst this; exact he
  · rcases hI.2.2.1 with h | h
    · exact .inl h
    · exact .inr (by omega)
  · rw [stR_take c l k hk, hI.2.2.2.1 (by omega), stepR, if_pos he]
theorem InvR.all {c : Int → Int} {l : List Int} {k : Nat} {pre : List (Nat × Nat)} (h : InvR c l k pre) (hk : l.length ≤ k) : AllR c l pre := by
  refine ⟨?_, fun i hi h1 => h.1 i hi h1 (by omega)⟩
  rcases Nat.lt_or_ge l.length k with h1 | h1
  · exact h.2.2.2.2 h1
  · have : k = l.length := by omega
    subst this
    have h2 := h.2.2.2.1 (Nat.le_refl _)
    rw [List.take_length] at h2
    rw [runsP, h2]; rfl

attribute [local go_sem] Oper.semAt_some
end Od
end Go.Proofs.Ytemdmalcoemhnaa
