import Derived.Test.YthdchapieninbaaEsc13
namespace Go.Proofs.Ythdchapieninbaa
open Go.RowKit

theorem oct_all : ((List.range 256).all fun n => (atL (ofU (UInt8.ofNat n)) == (n : Int)) && (atL ((ofU (UInt8.ofNat n)).map lowU) == (n : Int)) && decide (¬ (hexd (n / 16)).toNat = 37) && decide (¬ (hexd (n % 16)).toNat = 37)) = true := by decide +kernel
theorem oct_is (c : UInt8) : atL (ofU c) = c.toNat ∧ atL ((ofU c).map lowU) = c.toNat ∧ ¬ (hexd (c.toNat / 16)).toNat = 37 ∧ ¬ (hexd (c.toNat % 16)).toNat = 37 := by
  have := List.all_eq_true.1 oct_all c.toNat (by have := c.toNat_lt; simp; omega)
  simp only [Bool.and_eq_true, beq_iff_eq, decide_eq_true_eq, UInt8.ofNat_toNat] at this
  exact ⟨this.1.1.1, this.1.1.2, this.1.2, this.2⟩

theorem at_of (c : UInt8) (t : List UInt8) : atL (ofU c ++ t) = c.toNat := (oct_is c).1
theorem octL_of (c : UInt8) (t : List UInt8) : octL (ofU c ++ t) = c := by
  unfold octL; rw [at_of]; simp

theorem repl_of (f : List UInt8 → UInt8 → List UInt8) (c : UInt8) (t : List UInt8) : repl f (ofU c ++ t) = f (ofU c) c ++ repl f t := by
  have h : 0 ≤ atL (ofU c ++ t) := by rw [at_of]; omega
  have e := octL_of c t
  show repl f (37 :: hexd (c.toNat / 16) :: hexd (c.toNat % 16) :: t) = _
  have h' : 0 ≤ atL (37 :: hexd (c.toNat / 16) :: hexd (c.toNat % 16) :: t) := h
  rw [repl, if_pos h']
  have e' : octL (37 :: hexd (c.toNat / 16) :: hexd (c.toNat % 16) :: t) = c := e
  rw [e']; rfl

theorem at_plain (c : UInt8) (t : List UInt8) (h : ¬ c.toNat = 37) : atL (c :: t) < 0 := by
  match t with
  | [] => show (-1 : Int) < 0; omega
  | [_] => show (-1 : Int) < 0; omega
  | a :: b :: r => rw [atL, if_neg (fun x => h x.1)]; omega
theorem repl_miss (f : List UInt8 → UInt8 → List UInt8) (c : UInt8) (t : List UInt8) (h : atL (c :: t) < 0) : repl f (c :: t) = c :: repl f t := by
  match t, h with
  | [], _ => rfl
  | [_], _ => rfl
  | a :: b :: r, h => rw [repl, if_neg (by omega)]

theorem and_zero (x : Int) : (bits BinOp.and IntKind.i64 0 x != 0) = false := by
  simp [bits, IntKind.wrap]
  intro _ h
  exact absurd h (by decide)
theorem and_zero' (x : Int) : (bits BinOp.and IntKind.i64 x 0 != 0) = false := by
  simp [bits, IntKind.wrap]
  intro _ h
  exact absurd h (by decide)

theorem cls37 (cl : Int) : isB ((37 : UInt8).toNat : Int) cl = false := by
  have h : clsI ((37 : UInt8).toNat : Int) = 0 := by decide +kernel
  unfold isB; rw [h]
  exact and_zero cl
theorem isB_zero (c : UInt8) : isB (c.toNat : Int) 0 = false := by
  unfold isB
  exact and_zero' _

theorem enc_right (cl : Int) : ∀ l, rightL (encL cl l) = true
  | [] => rfl
  | c :: l => by
    have ih := enc_right cl l
    rw [encL]
    by_cases h : isB (c.toNat : Int) cl = true
    · rw [if_pos h]
      have h37 : ¬ c.toNat = 37 := fun e => by
        have : c = 37 := UInt8.toNat_inj.1 e
        rw [this, cls37] at h; cases h
      show rightL (c :: encL cl l) = true
      rw [right_no37 c _ h37]; exact ih
    · rw [if_neg h]
      obtain ⟨_, _, h3, h4⟩ := oct_is c
      show rightL (37 :: hexd (c.toNat / 16) :: hexd (c.toNat % 16) :: encL cl l) = true
      rw [right_37 37 _ rfl, right_no37 _ _ h3, right_no37 _ _ h4, ih]
      have h : 0 ≤ atL (ofU c ++ encL cl l) := by rw [at_of]; omega
      have h' : 0 ≤ atL (37 :: hexd (c.toNat / 16) :: hexd (c.toNat % 16) :: encL cl l) := h
      rw [decide_eq_true h']; rfl

theorem enc_back (cl : Int) : ∀ l, repl (fun _ c => [c]) (encL cl l) = l
  | [] => rfl
  | c :: l => by
    have ih := enc_back cl l
    rw [encL]
    by_cases h : isB (c.toNat : Int) cl = true
    · rw [if_pos h]
      have h37 : ¬ c.toNat = 37 := fun e => by
        have : c = 37 := UInt8.toNat_inj.1 e
        rw [this, cls37] at h; cases h
      show repl _ (c :: encL cl l) = _
      rw [repl_miss _ c _ (at_plain c _ h37), ih]
    · rw [if_neg h, repl_of, ih]; rfl

theorem enc_len (cl : Int) : ∀ l, (encL cl l).length ≤ 3 * l.length
  | [] => Nat.le_refl _
  | c :: l => by
    have := enc_len cl l
    rw [encL, List.length_append, List.length_cons]
    split
    · simp; omega
    · have : (ofU c).length = 3 := rfl
      omega

theorem repl_len (f : List UInt8 → UInt8 → List UInt8) (hf : ∀ x c, x.length ≤ 3 → (f x c).length ≤ 3) : ∀ l, (repl f l).length ≤ l.length
  | [] => Nat.le_refl _
  | [_] => Nat.le_refl _
  | [_, _] => Nat.le_refl _
  | a :: b :: c :: r => by
    rw [repl]
    split
    · have h1 := hf [a, b, c] (octL (a :: b :: c :: r)) (by simp)
      have h2 := repl_len f hf r
      rw [List.length_append]; simp only [List.length_cons]; omega
    · have h2 := repl_len f hf (b :: c :: r)
      simp only [List.length_cons] at h2 ⊢; omega

/-- Digits in upper case: an escape begins where one began. -/
def fU (_ : List UInt8) (c : UInt8) : List UInt8 := ofU c

theorem up_head (a : UInt8) (t : List UInt8) : ∃ z, repl fU (a :: t) = a :: z := by
  by_cases h : 0 ≤ atL (a :: t)
  · match t, h with
    | [], h => have h' : (0 : Int) ≤ -1 := h; omega
    | [_], h => have h' : (0 : Int) ≤ -1 := h; omega
    | b :: c :: r, h =>
      have ha : a.toNat = 37 := by
        by_cases ha : a.toNat = 37
        · exact ha
        · have := at_plain a (b :: c :: r) ha; omega
      have ha' : a = 37 := UInt8.toNat_inj.1 ha
      rw [repl, if_pos h, ha']
      exact ⟨_, rfl⟩
  · rw [repl_miss fU a t (by omega)]; exact ⟨_, rfl⟩

theorem at_three (a b c : UInt8) (r z : List UInt8) : atL (a :: b :: c :: r) = atL (a :: b :: c :: z) := rfl

theorem up_miss (a : UInt8) (t : List UInt8) (h : atL (a :: t) < 0) : atL (a :: repl fU t) < 0 := by
  match t, h with
  | [], _ => show (-1 : Int) < 0; omega
  | [_], _ => show (-1 : Int) < 0; omega
  | b :: c :: r, h =>
    by_cases hb : 0 ≤ atL (b :: c :: r)
    · obtain ⟨z, hz⟩ := up_head b (c :: r)
      rw [hz]
      have hb37 : b.toNat = 37 := by
        by_cases hb37 : b.toNat = 37
        · exact hb37
        · have := at_plain b (c :: r) hb37; omega
      have hv : valR b.toNat < 0 := by rw [hb37]; decide
      match z with
      | [] => show (-1 : Int) < 0; omega
      | y :: z' => rw [atL, if_neg (fun x => by omega)]; omega
    · rw [repl_miss fU b _ (by omega)]
      obtain ⟨z, hz⟩ := up_head c r
      rw [hz, at_three a b c z r]; exact h

theorem up_twice : ∀ l, repl fU (repl fU l) = repl fU l
  | [] => rfl
  | [_] => rfl
  | [_, _] => rfl
  | a :: b :: c :: r => by
    by_cases h : 0 ≤ atL (a :: b :: c :: r)
    · rw [repl, if_pos h]
      show repl fU (ofU _ ++ repl fU r) = _
      rw [repl_of, up_twice r]; rfl
    · rw [repl_miss fU a _ (by omega), repl_miss fU a _ (up_miss a _ (by omega)), up_twice (b :: c :: r)]
end Go.Proofs.Ythdchapieninbaa
