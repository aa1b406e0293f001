import Derived.Test.YteimhepmcjdbpaaGreatDoorOct5
import Derived.Lib.IndexMore
namespace Go.Proofs.YteimhepmcjdbpaaGreatDoor
open Go.RowKit
namespace Ip

/-- A text cut at the first instance of another: ahead, behind, is there one. -/
def cuG (sub : List UInt8) : List UInt8 → List UInt8 × List UInt8 × Bool
  | [] => ([], [], false)
  | a :: l => if sub.isPrefixOf (a :: l) then ([], (a :: l).drop sub.length, true) else (a :: (cuG sub l).1, (cuG sub l).2)

theorem cut_cuG (sub : List UInt8) (h : sub ≠ []) : ∀ l, Lib.cut l sub = cuG sub l := by
  intro l
  induction l with
  | nil =>
    cases sub with
    | nil => exact absurd rfl h
    | cons b t => rfl
  | cons a l ih =>
    have ge := Lib.index_ge l sub
    unfold Lib.cut Lib.index cuG
    by_cases hp : sub.isPrefixOf (a :: l) = true
    · rw [if_pos hp, if_pos hp]; simp
    · rw [if_neg hp, if_neg hp, ← ih]
      unfold Lib.cut
      by_cases h1 : Lib.index l sub = -1
      · simp [h1]
      · have h1' : (Lib.index l sub == -1) = false := by simpa using h1
        have h0 : 0 ≤ Lib.index l sub := by omega
        have e1 : (Lib.index l sub + 1).toNat = (Lib.index l sub).toNat + 1 := by omega
        simp only [h1', Bool.false_eq_true, if_false]
        rw [if_pos (by omega), if_pos h0, e1]
        simp [Nat.add_right_comm]

theorem cuG_len (sub : List UInt8) : ∀ l, (cuG sub l).1.length ≤ l.length ∧ (cuG sub l).2.1.length ≤ l.length := by
  intro l
  induction l with
  | nil => exact ⟨Nat.le_refl _, Nat.le_refl _⟩
  | cons a l ih =>
    unfold cuG
    split
    · refine ⟨Nat.zero_le _, ?_⟩
      simp only [List.length_drop]; omega
    · exact ⟨by simp only [List.length_cons]; omega, by simp only [List.length_cons]; omega⟩

/-- A text's parts between a byte: one at least. -/
def paL (c : UInt8) : List UInt8 → List (List UInt8)
  | [] => [[]]
  | a :: l => if a = c then [] :: paL c l else (a :: (paL c l).headD []) :: (paL c l).tail

theorem pre_one (c a : UInt8) (l : List UInt8) : [c].isPrefixOf (a :: l) = true ↔ a = c := by
  simp only [List.isPrefixOf, Bool.and_true, beq_iff_eq]
  exact eq_comm

theorem paL_cut (c : UInt8) : ∀ l, paL c l = (cuG [c] l).1 :: (if (cuG [c] l).2.2 = true then paL c (cuG [c] l).2.1 else []) := by
  intro l
  induction l with
  | nil => rfl
  | cons a l ih =>
    unfold cuG
    by_cases h : a = c
    · rw [if_pos ((pre_one c a l).2 h)]
      rw [paL, if_pos h]; simp
    · rw [if_neg (fun e => h ((pre_one c a l).1 e))]
      rw [paL, if_neg h, ih]; simp

theorem paL_ne (c : UInt8) (l : List UInt8) : paL c l ≠ [] := by rw [paL_cut]; simp

/-- A decimal digit; what digits say; what the digits between two full stops say, -1: nothing. -/
def dgt (x : UInt8) : Bool := decide (48 ≤ x.toNat ∧ x.toNat ≤ 57)
def decI (l : List UInt8) : Int := l.foldl (fun n x => n * 10 + ((x.toNat : Int) - 48)) 0
def nuL (l : List UInt8) : Int := if l ≠ [] ∧ l.length ≤ 3 ∧ l.all dgt = true ∧ (l.head? = some 48 → l.length = 1) ∧ decI l ≤ 255 then decI l else -1

theorem decI_snoc (l : List UInt8) (x : UInt8) : decI (l ++ [x]) = decI l * 10 + ((x.toNat : Int) - 48) := by
  unfold decI; rw [List.foldl_append]; rfl

theorem decI_bd : ∀ l : List UInt8, l.length ≤ 3 → l.all dgt = true → 0 ≤ decI l ∧ decI l ≤ 999 := by
  intro l hl hd
  match l, hl, hd with
  | [], _, _ => exact ⟨by decide, by decide⟩
  | [a], _, hd =>
    simp only [List.all_cons, List.all_nil, Bool.and_true, dgt, decide_eq_true_eq] at hd
    simp only [decI, List.foldl]; omega
  | [a, b], _, hd =>
    simp only [List.all_cons, List.all_nil, Bool.and_true, dgt, decide_eq_true_eq, Bool.and_eq_true] at hd
    simp only [decI, List.foldl]; omega
  | [a, b, c], _, hd =>
    simp only [List.all_cons, List.all_nil, Bool.and_true, dgt, decide_eq_true_eq, Bool.and_eq_true] at hd
    simp only [decI, List.foldl]; omega
  | _ :: _ :: _ :: _ :: _, hl, _ => simp at hl

theorem nuL_bd (l : List UInt8) : -1 ≤ nuL l ∧ nuL l ≤ 255 := by
  unfold nuL
  split
  · rename_i h
    have := decI_bd l h.2.1 h.2.2.1
    omega
  · omega

/-- Four numbers as an address, if there are four and each is one. -/
def v4R : List Int → List Int × Bool
  | [a, b, c, d] => if 0 ≤ a ∧ 0 ≤ b ∧ 0 ≤ c ∧ 0 ≤ d then ([a, b, c, d], true) else ([0, 0, 0, 0], false)
  | _ => ([0, 0, 0, 0], false)
def v4L (l : List UInt8) : List Int × Bool := v4R ((paL 46 l).map nuL)

theorem v4R_len (xs : List Int) (h : xs.length ≠ 4) : v4R xs = ([0, 0, 0, 0], false) := by
  match xs, h with
  | [], _ => rfl
  | [_], _ => rfl
  | [_, _], _ => rfl
  | [_, _, _], _ => rfl
  | [_, _, _, _], h => exact absurd rfl h
  | _ :: _ :: _ :: _ :: _ :: _, _ => rfl
theorem v4R_neg (xs : List Int) (x : Int) (hx : x < 0) (h : x ∈ xs) : v4R xs = ([0, 0, 0, 0], false) := by
  match xs, h with
  | [_], _ => rfl
  | [_, _], _ => rfl
  | [_, _, _], _ => rfl
  | [a, b, c, d], h =>
    show (if 0 ≤ a ∧ 0 ≤ b ∧ 0 ≤ c ∧ 0 ≤ d then ([a, b, c, d], true) else ([0, 0, 0, 0], false)) = _
    rw [if_neg]
    simp only [List.mem_cons, List.not_mem_nil, or_false] at h
    omega
  | _ :: _ :: _ :: _ :: _ :: _, _ => rfl
theorem v4R_yes (a b c d : Int) (ha : 0 ≤ a) (hb : 0 ≤ b) (hc : 0 ≤ c) (hd : 0 ≤ d) : v4R [a, b, c, d] = ([a, b, c, d], true) := by
  show (if 0 ≤ a ∧ 0 ≤ b ∧ 0 ≤ c ∧ 0 ≤ d then ([a, b, c, d], true) else ([0, 0, 0, 0], false)) = _
  rw [if_pos ⟨ha, hb, hc, hd⟩]
theorem v4R_bd (xs : List Int) (h : ∀ x ∈ xs, x ≤ 255) : ∃ a b c d k, v4R xs = ([a, b, c, d], k) ∧ 0 ≤ a ∧ a ≤ 255 ∧ 0 ≤ b ∧ b ≤ 255 ∧ 0 ≤ c ∧ c ≤ 255 ∧ 0 ≤ d ∧ d ≤ 255 := by
  by_cases hl : xs.length = 4
  · match xs, hl, h with
    | [a, b, c, d], _, h =>
      by_cases hk : 0 ≤ a ∧ 0 ≤ b ∧ 0 ≤ c ∧ 0 ≤ d
      · simp only [List.mem_cons, List.not_mem_nil, or_false, forall_eq_or_imp, forall_eq] at h
        exact ⟨a, b, c, d, true, v4R_yes a b c d hk.1 hk.2.1 hk.2.2.1 hk.2.2.2, by omega⟩
      · exact ⟨0, 0, 0, 0, false, by show (if 0 ≤ a ∧ 0 ≤ b ∧ 0 ≤ c ∧ 0 ≤ d then ([a, b, c, d], true) else ([0, 0, 0, 0], false)) = _; rw [if_neg hk], by omega⟩
  · exact ⟨0, 0, 0, 0, false, v4R_len xs hl, by omega⟩
theorem v4L_bd (l : List UInt8) : ∃ a b c d k, v4L l = ([a, b, c, d], k) ∧ 0 ≤ a ∧ a ≤ 255 ∧ 0 ≤ b ∧ b ≤ 255 ∧ 0 ≤ c ∧ c ≤ 255 ∧ 0 ≤ d ∧ d ≤ 255 := by
  refine v4R_bd _ (fun x hx => ?_)
  obtain ⟨y, _, rfl⟩ := List.mem_map.1 hx
  exact (nuL_bd y).2
end Ip
end Go.Proofs.YteimhepmcjdbpaaGreatDoor
