import Derived.Test.YtfbphacbnmimkaaUcd21
namespace Go.Proofs.Ytfbphacbnmimkaa
open Go.RowKit

theorem rnext_any (w : World) (r kd : Int) (hr0 : -2147483648 ≤ r) (hr1 : r ≤ 2147483647) : Calls Try.prog 19 #[.int .i64 r, .int .i64 kd] w fun e w' => e = .returned (.int .i64 (rnextP kd (max r 0) allT)) ∧ Below w.heap.size w w' :=
  rnext_T all_len.1 all_len.2 all_ends w r kd hr0 hr1 rall_any

/-- Lines one behind the other, from n on. -/
def AscL : Int → List Ln → Prop
  | _, [] => True
  | n, x :: T => n ≤ x.1 ∧ x.1 ≤ x.2.1 ∧ x.2.1 ≤ 1114111 ∧ AscL (x.2.1 + 1) T
def ascB : Int → List Ln → Bool
  | _, [] => true
  | n, x :: T => decide (n ≤ x.1) && decide (x.1 ≤ x.2.1) && decide (x.2.1 ≤ 1114111) && ascB (x.2.1 + 1) T
theorem asc_of : ∀ (T : List Ln) (n : Int), ascB n T = true → AscL n T
  | [], _, _ => trivial
  | x :: T, n, h => by
    simp only [ascB, Bool.and_eq_true, decide_eq_true_eq] at h
    exact ⟨h.1.1.1, h.1.1.2, h.1.2, asc_of T _ h.2⟩
set_option maxRecDepth 1000000 in
theorem all_ascB : ascB 0 allT = true := by kernel_rfl
theorem all_asc : AscL 0 allT := asc_of allT 0 all_ascB

def gapR (n m : Int) : List (SRow Tr) := if n < m then [⟨n, m - 1, zTr⟩] else []

theorem fill_case (x : Ln) (R : List (SRow Tr)) : ∀ (m : Nat) (a : Int), fillP a (caseRows x a m ++ R) = caseRows x a m ++ fillP (a + m) R
  | 0, a => by simp [caseRows]
  | m + 1, a => by
    have ih := fill_case x R m (a + 1)
    simp only [caseRows, List.cons_append, fillP]
    rw [if_neg (by omega), ih, show a + 1 + (m : Int) = a + ((m + 1 : Nat) : Int) by omega]

theorem fill_gap (n : Int) (y : SRow Tr) (R : List (SRow Tr)) : fillP n (y :: R) = gapR n y.f ++ fillP y.f (y :: R) := by
  unfold gapR
  simp only [fillP]
  rw [if_neg (by omega : ¬ y.f < y.f)]
  split <;> rfl

theorem fill_line (x : Ln) (n : Int) (R : List (SRow Tr)) (h : x.1 ≤ x.2.1) : fillP n (lineRows x ++ R) = gapR n x.1 ++ (lineRows x ++ fillP (x.2.1 + 1) R) := by
  unfold lineRows
  split
  · rw [List.cons_append, fill_gap]
    simp only [fillP, List.nil_append, List.cons_append]
    rw [if_neg (by omega : ¬ x.1 < x.1)]
  · obtain ⟨m, hm⟩ : ∃ m : Nat, (x.2.1 - x.1 + 1).toNat = m + 1 := ⟨(x.2.1 - x.1).toNat, by omega⟩
    have e : caseRows x x.1 (x.2.1 - x.1 + 1).toNat ++ R = ⟨x.1, x.1, hasP x (caseP x x.1)⟩ :: (caseRows x (x.1 + 1) m ++ R) := by rw [hm]; rfl
    have f := fill_case x R (x.2.1 - x.1 + 1).toNat x.1
    rw [e] at f ⊢
    rw [fill_gap]
    simp only
    rw [f, show x.1 + (((x.2.1 - x.1 + 1).toNat : Nat) : Int) = x.2.1 + 1 by omega]

theorem next_app (r k : Int) : ∀ (A B : List (SRow Tr)), nextP r k (A ++ B) = if (nextP r k A).2 = true then nextP r k A else nextP r k B
  | [], B => by simp [nextP]
  | x :: A, B => by
    have ih := next_app r k A B
    simp only [List.cons_append, nextP]
    split
    · split
      · rfl
      · exact ih
    · exact ih

/-- Rows that all begin at n or behind it. -/
def From (n : Int) (L : List (SRow Tr)) : Prop := ∀ y ∈ L, n ≤ y.f ∧ y.f ≤ y.t
theorem From.mono {n m : Int} {L : List (SRow Tr)} (h : From n L) (hm : m ≤ n) : From m L := fun y hy => ⟨by have := (h y hy).1; omega, (h y hy).2⟩
theorem from_gap (n m : Int) : From n (gapR n m) := by
  unfold gapR From
  split
  · intro y hy; simp at hy; subst hy; exact ⟨by simp, by simp; omega⟩
  · intro y hy; simp at hy
theorem from_case (x : Ln) : ∀ (m : Nat) (a : Int), From a (caseRows x a m)
  | 0, a => by intro y hy; simp [caseRows] at hy
  | m + 1, a => by
    intro y hy
    simp only [caseRows, List.mem_cons] at hy
    rcases hy with rfl | hy
    · exact ⟨by simp, by simp⟩
    · have := from_case x m (a + 1) y hy
      exact ⟨by omega, this.2⟩
theorem from_line (x : Ln) (h : x.1 ≤ x.2.1) : From x.1 (lineRows x) := by
  unfold lineRows
  split
  · intro y hy; simp at hy; subst hy; exact ⟨by simp, h⟩
  · exact from_case x _ _
theorem from_fill : ∀ (T : List Ln) (n : Int), AscL n T → From n (fillP n (asgP T))
  | [], n, _ => by
    intro y hy
    simp only [asgP, List.flatMap_nil, fillP] at hy
    split at hy
    · simp at hy; subst hy; exact ⟨by simp, by simpa⟩
    · simp at hy
  | x :: T, n, h => by
    obtain ⟨h1, h2, h3, h4⟩ := h
    have e : asgP (x :: T) = lineRows x ++ asgP T := by unfold asgP; rw [List.flatMap_cons]
    rw [e, fill_line x n _ h2]
    intro y hy
    rcases List.mem_append.1 hy with hy | hy
    · exact from_gap n x.1 y hy
    · rcases List.mem_append.1 hy with hy | hy
      · have := from_line x h2 y hy; exact ⟨by omega, this.2⟩
      · have := from_fill T (x.2.1 + 1) h4 y hy; exact ⟨by omega, this.2⟩

theorem next_low (r r' k : Int) (h : r ≤ r') : ∀ (L : List (SRow Tr)), From r' L → nextP r k L = nextP r' k L
  | [], _ => rfl
  | x :: L, hf => by
    have ⟨h1, h2⟩ := hf x (List.mem_cons_self ..)
    have ih := next_low r r' k h L (fun y hy => hf y (List.mem_cons_of_mem _ hy))
    simp only [nextP]
    have q1 : r ≤ x.t := by omega
    have q2 : r' ≤ x.t := by omega
    rw [if_pos q1, if_pos q2, ih]
    split
    · rw [show max x.f r = max x.f r' by omega]
    · rfl

/-- In the rows of a line that is even or odd. -/
theorem case_12 (x : Ln) (r : Int) : caseP x r = 1 ∨ caseP x r = 2 := by unfold caseP; split <;> simp
theorem case_step (x : Ln) (r : Int) (h0 : 0 ≤ r) : caseP x (r + 1) ≠ caseP x r := by
  unfold caseP
  have e1 : r.tmod 2 = r % 2 := Int.tmod_eq_emod_of_nonneg h0
  have e2 : (r + 1).tmod 2 = (r + 1) % 2 := Int.tmod_eq_emod_of_nonneg (by omega)
  rw [e1, e2]
  have hm : (r % 2 = 0 ∧ (r + 1) % 2 = 1) ∨ (r % 2 = 1 ∧ (r + 1) % 2 = 0) := by omega
  rcases hm with ⟨a, b⟩ | ⟨a, b⟩ <;> rw [a, b] <;> cases (x.2.2.1 == 12) <;> decide

theorem next_case_no (x : Ln) (r k : Int) (h : k ≠ 1 ∧ k ≠ 2) : ∀ (m : Nat) (a : Int), nextP r k (caseRows x a m) = (0, false)
  | 0, _ => rfl
  | m + 1, a => by
    simp only [caseRows, nextP]
    have := case_12 x a
    rw [if_neg (fun e : (hasP x (caseP x a)).a = k => by have e' : caseP x a = k := e; omega), next_case_no x r k h m (a + 1)]
    split <;> rfl

theorem next_case_high (x : Ln) (r k : Int) : ∀ (m : Nat) (a : Int), a + m ≤ r → nextP r k (caseRows x a m) = (0, false)
  | 0, _, _ => rfl
  | m + 1, a, h => by
    simp only [caseRows, nextP]
    rw [if_neg (by omega)]
    exact next_case_high x r k m (a + 1) (by omega)

/-- From r on, within the rows. -/
theorem next_case_at (x : Ln) (r k : Int) (h0 : 0 ≤ r) (m : Nat) : nextP r k (caseRows x r (m + 1)) = if caseP x r = k then (r, true) else if 0 < m ∧ caseP x (r + 1) = k then (r + 1, true) else (0, false) := by
  simp only [caseRows, nextP]
  rw [if_pos (Int.le_refl _)]
  show (if caseP x r = k then (max r r, true) else nextP r k (caseRows x (r + 1) m)) = _
  by_cases h1 : caseP x r = k
  · rw [if_pos h1, if_pos h1, show max r r = r by omega]
  · rw [if_neg h1, if_neg h1]
    cases m with
    | zero => rw [if_neg (by omega)]; rfl
    | succ m =>
      simp only [caseRows, nextP]
      rw [if_pos (by omega)]
      show (if caseP x (r + 1) = k then (max (r + 1) r, true) else nextP r k (caseRows x (r + 1 + 1) m)) = _
      by_cases h2 : caseP x (r + 1) = k
      · rw [if_pos h2, if_pos ⟨by omega, h2⟩, show max (r + 1) r = r + 1 by omega]
      · rw [if_neg h2, if_neg (fun h => h2 h.2)]
        have c1 := case_12 x r
        have c2 := case_12 x (r + 1)
        have c3 := case_step x r h0
        exact next_case_no x r k (by omega) m _

theorem next_case_skip (x : Ln) (r k : Int) : ∀ (d m : Nat) (a : Int), a + d = r → nextP r k (caseRows x a (d + m)) = nextP r k (caseRows x r m)
  | 0, m, a, h => by rw [Nat.zero_add, show a = r by omega]
  | d + 1, m, a, h => by
    rw [show d + 1 + m = (d + m) + 1 by omega]
    simp only [caseRows, nextP]
    rw [if_neg (by omega)]
    exact next_case_skip x r k d m (a + 1) (by omega)

/-- What a place is as Next tells it. -/
def conv (v : Int) : Int × Bool := if v < 0 then (0, false) else (v, true)

theorem next_line (x : Ln) (a k : Int) (h1 : 0 ≤ x.1) (h2 : x.1 ≤ x.2.1) (hk : x.2.2.1 ≤ 13) (ha : a ≤ x.2.1) (h0 : 0 ≤ a) (R : List (SRow Tr)) (hR : From (x.2.1 + 1) R) (v : Int) (hv : nextP (x.2.1 + 1) k R = conv v) :
    nextP a k (lineRows x ++ R) = conv (if 12 ≤ x.2.2.1 ∧ max a x.1 < x.2.1 ∧ rkindP x (max a x.1) ≠ k then (if rkindP x (max a x.1 + 1) = k then max a x.1 + 1 else v) else (if rkindP x (max a x.1) = k then max a x.1 else v)) := by
  have hv' : nextP a k R = conv v := by rw [next_low a (x.2.1 + 1) k (by omega) R hR, hv]
  have c : ∀ z : Int, 0 ≤ z → conv z = (z, true) := fun z hz => by unfold conv; rw [if_neg (by omega)]
  obtain ⟨F, hF⟩ : ∃ F, F = (if 12 ≤ x.2.2.1 ∧ max a x.1 < x.2.1 ∧ rkindP x (max a x.1) ≠ k then (if rkindP x (max a x.1 + 1) = k then max a x.1 + 1 else v) else (if rkindP x (max a x.1) = k then max a x.1 else v)) := ⟨_, rfl⟩
  rw [← hF, next_app]
  unfold lineRows
  split
  · rename_i hc
    have hr : ∀ z, rkindP x z = x.2.2.1 := fun z => by unfold rkindP; rw [if_neg hc.1, if_neg hc.2]
    rw [if_neg (fun h => by have := h.1; omega), hr] at hF
    have e : nextP a k [⟨x.1, x.2.1, hasP x x.2.2.1⟩] = if x.2.2.1 = k then (max x.1 a, true) else (0, false) := by
      simp only [nextP]
      rw [if_pos ha]; rfl
    rw [e]
    by_cases hx : x.2.2.1 = k
    · rw [if_pos hx] at hF
      rw [if_pos hx, if_pos rfl, hF, c _ (by omega), show max x.1 a = max a x.1 by omega]
    · rw [if_neg hx] at hF
      rw [if_neg hx, if_neg Bool.false_ne_true, hF, hv']
  · rename_i hc
    have hcc : x.2.2.1 = 12 ∨ x.2.2.1 = 13 := by omega
    have hr : ∀ z, 0 ≤ z → caseP x z = rkindP x z := fun z hz => case_kind x z hz hcc
    obtain ⟨b, hb⟩ : ∃ b, b = max a x.1 := ⟨_, rfl⟩
    rw [← hb] at hF
    have b0 : 0 ≤ b := by omega
    have b2 : b ≤ x.2.1 := by omega
    obtain ⟨m, hm⟩ : ∃ m : Nat, (x.2.1 - b + 1).toNat = m + 1 := ⟨(x.2.1 - b).toNat, by omega⟩
    have hn : nextP a k (caseRows x x.1 (x.2.1 - x.1 + 1).toNat) = nextP b k (caseRows x b (m + 1)) := by
      by_cases hax : a ≤ x.1
      · have e : b = x.1 := by omega
        rw [next_low a x.1 k hax _ (from_case x _ _), ← hm, e]
      · have e : b = a := by omega
        have := next_case_skip x a k (a - x.1).toNat (m + 1) x.1 (by omega)
        rw [e, ← this]
        congr 2
        omega
    have hN := next_case_at x b k b0 m
    rw [hr b b0, hr (b + 1) (by omega)] at hN
    rw [hn]
    by_cases h3 : rkindP x b = k
    · rw [if_neg (fun h => h.2.2 h3), if_pos h3] at hF
      rw [if_pos h3] at hN
      rw [hN, if_pos rfl, hF, c b b0]
    · rw [if_neg h3] at hN
      by_cases h4 : b < x.2.1
      · rw [if_pos ⟨by omega, h4, h3⟩] at hF
        by_cases h5 : rkindP x (b + 1) = k
        · rw [if_pos h5] at hF
          rw [if_pos ⟨by omega, h5⟩] at hN
          rw [hN, if_pos rfl, hF, c (b + 1) (by omega)]
        · rw [if_neg h5] at hF
          rw [if_neg (fun h => h5 h.2)] at hN
          rw [hN, if_neg Bool.false_ne_true, hF, hv']
      · rw [if_neg (fun h => h4 h.2.1), if_neg h3] at hF
        rw [if_neg (by omega)] at hN
        rw [hN, if_neg Bool.false_ne_true, hF, hv']

theorem next_same (k : Int) : ∀ (T : List Ln) (n a : Int), 0 ≤ n → n ≤ a → AscL n T → (∀ x ∈ T, x.2.2.1 ≤ 13) → nextP a k (fillP n (asgP T)) = conv (rnextP k a T)
  | [], n, a, h0, ha, _, _ => by
    simp only [asgP, List.flatMap_nil, fillP, rnextP]
    by_cases h1 : k = 0 ∧ a ≤ 1114111
    · rw [if_pos (by omega), if_pos h1, conv, if_neg (by omega)]
      simp only [nextP]
      rw [if_pos h1.2, if_pos (show zTr.a = k from h1.1.symm), show max n a = a by omega]
    · rw [if_neg h1]
      split
      · simp only [nextP]
        by_cases h2 : a ≤ 1114111
        · rw [if_pos h2, if_neg (fun e : zTr.a = k => h1 ⟨e.symm, h2⟩)]; rfl
        · rw [if_neg h2]; rfl
      · rfl
  | x :: T, n, a, h0, ha, h, hk => by
    obtain ⟨h1, h2, h3, h4⟩ := h
    have hk1 := hk x (List.mem_cons_self ..)
    have e : asgP (x :: T) = lineRows x ++ asgP T := by unfold asgP; rw [List.flatMap_cons]
    have hF := from_fill T (x.2.1 + 1) h4
    rw [e, fill_line x n _ h2, next_app, rnextP]
    have hg : nextP a k (gapR n x.1) = if k = 0 ∧ a < x.1 then (a, true) else (0, false) := by
      unfold gapR
      split
      · simp only [nextP]
        by_cases g1 : a ≤ x.1 - 1
        · rw [if_pos g1]
          by_cases g2 : k = 0
          · rw [if_pos (show zTr.a = k from g2.symm), if_pos ⟨g2, by omega⟩, show max n a = a by omega]
          · rw [if_neg (fun e : zTr.a = k => g2 e.symm), if_neg (fun h => g2 h.1)]
        · rw [if_neg g1, if_neg (by omega)]
      · rw [if_neg (by omega)]; rfl
    rw [hg]
    by_cases g : k = 0 ∧ a < x.1
    · rw [if_pos g, if_pos rfl, if_neg (by omega), if_pos g, conv, if_neg (by omega)]
    · rw [if_neg g, if_neg Bool.false_ne_true]
      by_cases hc : x.2.1 < a
      · rw [if_pos hc]
        have hl : nextP a k (lineRows x) = (0, false) := by
          unfold lineRows
          split
          · simp only [nextP]; rw [if_neg (by omega)]
          · exact next_case_high x a k _ _ (by omega)
        rw [next_app, hl, if_neg Bool.false_ne_true]
        exact next_same k T (x.2.1 + 1) a (by omega) (by omega) h4 (fun y hy => hk y (List.mem_cons_of_mem _ hy))
      · rw [if_neg hc, if_neg g]
        have ih := next_same k T (x.2.1 + 1) (x.2.1 + 1) (by omega) (by omega) h4 (fun y hy => hk y (List.mem_cons_of_mem _ hy))
        exact next_line x a k (by omega) h2 hk1 (by omega) (by omega) _ hF _ ih

set_option maxRecDepth 1000000 in
theorem all_kindsB : allT.all (fun x => decide (x.2.2.1 ≤ 13)) = true := by kernel_rfl
theorem book_next (r k : Int) : nextP r k bookL = conv (rnextP k (max r 0) allT) := by
  have h := next_same k allT 0 (max r 0) (by omega) (by omega) all_asc (fun x hx => of_decide_eq_true (List.all_eq_true.1 all_kindsB x hx))
  rw [← h]
  by_cases hr : 0 ≤ r
  · rw [show max r 0 = r by omega]; rfl
  · rw [show max r 0 = 0 by omega]
    exact next_low r 0 k (by omega) _ (from_fill allT 0 all_asc)

/-- What is found is of the kind. -/
theorem next_kind (r k z : Int) : ∀ (L : List (SRow Tr)) (a : Int), Rising a L → nextP r k L = (z, true) → (a < z ∧ z ≤ 1114111) ∧ (fstT zTr z L).a = k
  | [], _, _, h => by simp [nextP] at h
  | x :: L, a, hr, h => by
    obtain ⟨h1, h2, h3, h4⟩ := hr
    have go : nextP r k L = (z, true) → (a < z ∧ z ≤ 1114111) ∧ (fstT zTr z (x :: L)).a = k := fun hh => by
      have ih := next_kind r k z L x.t h4 hh
      refine ⟨by omega, ?_⟩
      rw [fstT, if_neg (by omega)]; exact ih.2
    simp only [nextP] at h
    split at h
    · rename_i hm
      split at h
      · rename_i hk
        simp only [Prod.mk.injEq, and_true] at h
        refine ⟨by omega, ?_⟩
        rw [fstT, if_pos (by omega)]; exact hk
      · exact go h
    · exact go h

theorem next_kind_bd (r k z : Int) (h : nextP r k bookL = (z, true)) : 0 ≤ z ∧ z ≤ 1114111 := by
  have := (next_kind r k z bookL (-1) book_rising h).1
  omega

theorem next_none (r k : Int) : ∀ (L : List (SRow Tr)), (∀ x ∈ L, x.v.a ≠ k) → nextP r k L = (0, false)
  | [], _ => rfl
  | x :: L, h => by
    simp only [nextP]
    rw [if_neg (h x (List.mem_cons_self ..)), next_none r k L (fun y hy => h y (List.mem_cons_of_mem _ hy))]
    split <;> rfl
theorem next_out (r k : Int) (h : k < 0 ∨ 11 < k) : nextP r k bookL = (0, false) := next_none r k bookL (fun x hx e => by have := book_kinds x hx; omega)
theorem next_kind_book (r k z : Int) (h : nextP r k bookL = (z, true)) : (getV zTr bookL z).a = k := by
  rw [get_fst book_rising]
  exact (next_kind r k z bookL (-1) book_rising h).2
end Go.Proofs.Ytfbphacbnmimkaa
