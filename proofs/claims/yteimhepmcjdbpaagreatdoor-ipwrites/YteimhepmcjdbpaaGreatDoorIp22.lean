import Derived.Test.YteimhepmcjdbpaaGreatDoorIp21
namespace Go.Proofs.YteimhepmcjdbpaaGreatDoor
open Go.RowKit
namespace Ip

/-- How many hexadecimal digits a text begins with. -/
def hxN (t : List UInt8) : Nat := (t.takeWhile hxB).length
theorem hxN_le (t : List UInt8) : hxN t ≤ t.length := by
  unfold hxN; exact (List.takeWhile_sublist _).length_le
theorem hxN_in : ∀ (t : List UInt8) (k : Nat) (_ : k < hxN t) (h2 : k < t.length), hxB t[k] = true := by
  intro t
  induction t with
  | nil => intro k h h2; simp at h2
  | cons a t ih =>
    intro k h h2
    unfold hxN at h ih
    rw [List.takeWhile_cons] at h
    by_cases ha : hxB a = true
    · rw [if_pos ha] at h
      cases k with
      | zero => exact ha
      | succ k => exact ih k (by simpa using h) (by simpa using h2)
    · rw [if_neg ha] at h; simp at h
theorem hxN_at : ∀ (t : List UInt8) (h : hxN t < t.length), hxB t[hxN t] = false := by
  intro t
  induction t with
  | nil => intro h; simp at h
  | cons a t ih =>
    intro h
    by_cases ha : hxB a = true
    · have e : hxN (a :: t) = hxN t + 1 := by unfold hxN; rw [List.takeWhile_cons, if_pos ha]; rfl
      have h2 : hxN t < t.length := by rw [e] at h; simpa using h
      have := ih h2
      simp only [e]
      exact this
    · have e : hxN (a :: t) = 0 := by unfold hxN; rw [List.takeWhile_cons, if_neg ha]; rfl
      simp only [e]
      simpa using ha
theorem dw_drop : ∀ t : List UInt8, t.dropWhile hxB = t.drop (hxN t) := by
  intro t
  induction t with
  | nil => rfl
  | cons a t ih =>
    by_cases ha : hxB a = true
    · have e : hxN (a :: t) = hxN t + 1 := by unfold hxN; rw [List.takeWhile_cons, if_pos ha]; rfl
      rw [e, List.dropWhile_cons, if_pos ha, ih]; rfl
    · have e : hxN (a :: t) = 0 := by unfold hxN; rw [List.takeWhile_cons, if_neg ha]; rfl
      rw [e, List.dropWhile_cons, if_neg ha]; rfl
theorem hx_46 : hxB 46 = false := by decide
theorem cu46_none : ∀ l : List UInt8, ¬ (46 : UInt8) ∈ l → (cuG [46] l).2.2 = false := by
  intro l
  induction l with
  | nil => intro _; rfl
  | cons a l ih =>
    intro h
    rw [List.mem_cons, not_or] at h
    unfold cuG
    rw [if_neg (fun e => h.1 ((pre_one 46 a l).1 e).symm)]
    exact ih h.2
theorem cu46_at : ∀ (d r : List UInt8), ¬ (46 : UInt8) ∈ d → cuG [46] (d ++ 46 :: r) = (d, r, true) := by
  intro d
  induction d with
  | nil =>
    intro r _
    show cuG [46] (46 :: r) = _
    unfold cuG
    rw [if_pos ((pre_one 46 46 r).2 rfl)]; rfl
  | cons a d ih =>
    intro r h
    rw [List.mem_cons, not_or] at h
    show cuG [46] (a :: (d ++ 46 :: r)) = _
    unfold cuG
    rw [if_neg (fun e => h.1 ((pre_one 46 a _).1 e).symm), ih r h.2]
theorem cu46_ver : ∀ l : List UInt8, (cuG [46] l).2.2 = true → ∃ d r, l = d ++ 46 :: r ∧ ¬ (46 : UInt8) ∈ d := by
  intro l
  induction l with
  | nil => intro h; cases h
  | cons a l ih =>
    intro h
    by_cases ha : a = 46
    · exact ⟨[], l, by rw [ha]; rfl, by simp⟩
    · unfold cuG at h
      rw [if_neg (fun e => ha ((pre_one 46 a l).1 e))] at h
      obtain ⟨d, r, e, hd⟩ := ih h
      exact ⟨a :: d, r, by rw [e]; rfl, by rw [List.mem_cons, not_or]; exact ⟨fun e => ha e.symm, hd⟩⟩
theorem hex_no46 (d : List UInt8) (h : d.all hxB = true) : ¬ (46 : UInt8) ∈ d := fun hm => by
  have := List.all_eq_true.1 h 46 hm
  rw [hx_46] at this; cases this

/-- When a text is a literal of later times, by places. -/
theorem fu_yes (l : List UInt8) (a : UInt8) (d r : List UInt8) (h : l = a :: (d ++ 46 :: r)) (ha : a = 118 ∨ a = 86) (hd : d.all hxB = true) (hd0 : d ≠ []) (hr : r ≠ []) : fuB l = r.all plU := by
  have h46 : ¬ (46 : UInt8) ∈ a :: d := by
    rw [List.mem_cons, not_or]
    exact ⟨fun e => by rcases ha with ha | ha <;> rw [ha] at e <;> exact absurd e (by decide), hex_no46 d hd⟩
  have e : cuG [46] l = (a :: d, r, true) := by rw [h]; exact cu46_at (a :: d) r h46
  unfold fuB
  rw [e]
  show (true && decide (r ≠ []) && decide (a = 118 ∨ a = 86) && decide (d ≠ []) && d.all hxB && r.all plU) = _
  rw [decide_eq_true hr, decide_eq_true ha, decide_eq_true hd0, hd]; rfl
theorem fu_only (l : List UInt8) (h : fuB l = true) : ∃ a d r, l = a :: (d ++ 46 :: r) ∧ (a = 118 ∨ a = 86) ∧ d.all hxB = true ∧ d ≠ [] ∧ r ≠ [] ∧ r.all plU = true := by
  unfold fuB at h
  cases hf : (cuG [46] l).2.2 with
  | false => rw [hf] at h; cases hv : (cuG [46] l).1 <;> rw [hv] at h <;> cases h
  | true =>
    obtain ⟨v, r, e, hv⟩ := cu46_ver l hf
    have e2 : cuG [46] l = (v, r, true) := by rw [e]; exact cu46_at v r hv
    rw [e2] at h
    cases v with
    | nil => cases h
    | cons a d =>
      have h' : (true && decide (r ≠ []) && decide (a = 118 ∨ a = 86) && decide (d ≠ []) && d.all hxB && r.all plU) = true := h
      simp only [Bool.and_eq_true, decide_eq_true_eq, Bool.true_and] at h'
      obtain ⟨⟨⟨⟨h1, h2⟩, h3⟩, h4⟩, h5⟩ := h'
      exact ⟨a, d, r, e, h2, h4, h3, h1, h5⟩
theorem hxN_of (d r : List UInt8) (hd : d.all hxB = true) : hxN (d ++ 46 :: r) = d.length := by
  unfold hxN
  have : (d ++ 46 :: r).takeWhile hxB = d := by
    rw [List.takeWhile_append_of_pos (fun a ha => List.all_eq_true.1 hd a ha), List.takeWhile_cons, if_neg (by decide), List.append_nil]
  rw [this]
theorem plU_all : ((List.range 256).all fun n => plU (UInt8.ofNat n) == !((bits .and .i64 (clsI (n : Int)) 15 == 0) && ((n : Int) != 58))) = true := by decide +kernel
theorem plU_is (x : UInt8) : plU x = !((bits .and .i64 (clsI (x.toNat : Int)) 15 == 0) && ((x.toNat : Int) != 58)) := by
  have := List.all_eq_true.1 plU_all x.toNat (by have := x.toNat_lt; simp; omega)
  simpa using this
end Ip
end Go.Proofs.YteimhepmcjdbpaaGreatDoor
