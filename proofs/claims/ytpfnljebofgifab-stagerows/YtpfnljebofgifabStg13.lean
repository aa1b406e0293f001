import Derived.Test.YtpfnljebofgifabStg12
namespace Go.Proofs.Ytpfnljebofgifab
open Go.RowKit

/-- The rows that StageFull lays. -/
def full (k : Nat) : List (SRow Int) := (List.range k).map fun i : Nat => ⟨2 * (i : Int), 2 * (i : Int), 1⟩
theorem full_len (k : Nat) : (full k).length = k := by simp [full]
theorem full_get (k i : Nat) (h : i < k) : (full k)[i]? = some ⟨2 * (i : Int), 2 * (i : Int), 1⟩ := by simp [full, h]
theorem full_succ (k : Nat) : full (k + 1) = full k ++ [⟨2 * (k : Int), 2 * (k : Int), 1⟩] := by simp [full, List.range_succ]

theorem chk_of_rising {α : Type} : ∀ (l : List (SRow α)) (a : Int), -1 ≤ a → Rising a l → chk a l = 0
  | [], _, _, _ => rfl
  | r :: l, a, ha, h => by
    obtain ⟨h1, h2, h3, h4⟩ := h
    unfold chk
    rw [if_neg (by omega), if_neg (by omega)]
    exact chk_of_rising l r.t (by omega) h4

theorem rising_append {α : Type} : ∀ (l m : List (SRow α)) (a b : Int), Rising a l → (∀ x ∈ l, x.t ≤ b) → a ≤ b → Rising b m → Rising a (l ++ m)
  | [], m, a, b, _, _, hab, hm => by
    cases m with
    | nil => trivial
    | cons y m => exact ⟨by have := hm.1; omega, hm.2⟩
  | x :: l, m, a, b, h, hx, hab, hm => by
    obtain ⟨h1, h2, h3, h4⟩ := h
    exact ⟨h1, h2, h3, rising_append l m x.t b h4 (fun y hy => hx y (by simp [hy])) (hx x (by simp)) hm⟩

theorem full_rising : ∀ k : Nat, k ≤ 4096 → Rising (-1) (full k)
  | 0, _ => trivial
  | k + 1, h => by
    rw [full_succ]
    refine rising_append (full k) _ (-1) (2 * (k : Int) - 1) (full_rising k (by omega)) (fun x hx => ?_) (by omega) ⟨by simp only; omega, by simp only; omega, by simp only; omega, trivial⟩
    simp only [full, List.mem_map, List.mem_range] at hx
    obtain ⟨i, hi, rfl⟩ := hx
    simp only; omega

theorem full_check (k : Nat) : check (full k) = if 4096 < k then 10 else 0 := by
  unfold check
  rw [full_len]
  split
  · rfl
  · rw [chk_of_rising _ _ (by omega) (full_rising k (by omega))]

theorem full_odd : ∀ (k : Nat) (r : Int), r % 2 = 1 → at' 0 (full k) r = 0
  | 0, _, _ => rfl
  | k + 1, r, h => by
    rw [full_succ, at_snoc, if_neg (by simp only; omega)]
    exact full_odd k r h
theorem full_last (k : Nat) : at' 0 (full (k + 1)) (2 * (k : Int)) = 1 := by
  rw [full_succ, at_snoc, if_pos (by simp only; omega)]

/-- The cells of its row behind i rounds. -/
def cellF (i j : Nat) : Value := if j / 3 < i then (if j % 3 = 2 then .int .i64 1 else .int .i32 (2 * ((j / 3 : Nat) : Int))) else (if j % 3 = 2 then .int .i64 0 else .int .i32 0)

theorem Try.info_vrow : (Try.prog.info? 43).map (fun i => (i.zero, i.size, i.bytes)) = some (some (.agg #[.int .i32 0, .int .i32 0, .int .i64 0]), 3, 16) := by kernel_rfl

theorem made_row {w w1 : World} {k : Nat} (h : w1.ownsRow w.heap.size 43 3 (.slice (some ⟨w.heap.size, 0, none⟩) k k) k (madeCells (Value.agg #[.int .i32 0, .int .i32 0, .int .i64 0]).cells (k * 3)).toList) : w1.rowIs w.heap.size 43 (k * 3) (cellF 0) := by
  rcases h.2 with ⟨h1, _⟩ | ⟨g, cap, cur, e, _, h3, h4, _, h6, h7⟩
  · simp at h1
  · simp at e
    obtain ⟨rfl, rfl⟩ := e
    refine ⟨cur, h3, h6, fun i hi => ?_⟩
    have e1 : cur[i]? = (cur.toList.take (k * 3))[i]? := by rw [List.getElem?_take_of_lt hi]; simp
    rw [e1, h7]
    have hm : i % 3 < 3 := Nat.mod_lt _ (by omega)
    simp [madeCells, hi, Value.cells, cellF]
    match i % 3, hm with
    | 0, _ => simp
    | 1, _ => simp
    | 2, _ => simp

theorem row_set3 {w : World} {g k i : Nat} {t : TypeId} (h : w.rowIs g t (k * 3) (cellF i)) : (((w.setCell ⟨g, i * 3, none⟩ (.int .i32 (2 * (i : Int)))).setCell ⟨g, i * 3 + 1, none⟩ (.int .i32 (2 * (i : Int)))).setCell ⟨g, i * 3 + 2, none⟩ (.int .i64 1)).rowIs g t (k * 3) (cellF (i + 1)) := by
  refine (((h.set (i * 3) _).set (i * 3 + 1) _).set (i * 3 + 2) _).congr (fun j _ => ?_)
  unfold cellF
  by_cases e2 : j = i * 3 + 2
  · subst e2
    have q1 : (i * 3 + 2) / 3 = i := by omega
    have q2 : (i * 3 + 2) % 3 = 2 := by omega
    simp [q1, q2]
  · by_cases e1 : j = i * 3 + 1
    · subst e1
      have q1 : (i * 3 + 1) / 3 = i := by omega
      have q2 : (i * 3 + 1) % 3 = 1 := by omega
      simp [q1, q2]
    · by_cases e0 : j = i * 3
      · subst e0
        have q1 : (i * 3) / 3 = i := by omega
        have q2 : (i * 3) % 3 = 0 := by omega
        simp [q1, q2]
      · have q : j / 3 < i ↔ j / 3 < i + 1 := by omega
        simp only [e2, e1, e0, if_false, q]

theorem vin_full {w : World} {g k : Nat} (h : w.rowIs g 43 (k * 3) (cellF k)) : VIn w (.slice (some ⟨g, 0, none⟩) k k) (full k) := by
  refine ⟨some ⟨g, 0, none⟩, k, by rw [full_len], fun j hj => ?_, fun j hj => ⟨g, 0, rfl, h.lt, ?_⟩⟩
  · simp [Value.ownBlock] at hj; subst hj; exact h.lt
  · have hj' : j < k := by rw [full_len] at hj; exact hj
    have e : (full k)[j] = ⟨2 * (j : Int), 2 * (j : Int), 1⟩ := Option.some.inj ((List.getElem?_eq_getElem hj).symm.trans (full_get k j hj'))
    rw [e, Nat.zero_add, h.cell (by omega), h.cell (by omega), h.cell (by omega)]
    have q0 : (j * 3) / 3 = j := by omega
    have q1 : (j * 3 + 1) / 3 = j := by omega
    have q2 : (j * 3 + 2) / 3 = j := by omega
    have m0 : (j * 3) % 3 = 0 := by omega
    have m1 : (j * 3 + 1) % 3 = 1 := by omega
    have m2 : (j * 3 + 2) % 3 = 2 := by omega
    simp [cellF, q0, q1, q2, m0, m1, m2, hj']

/-- .. with another first row. -/
theorem vin_bad {w : World} {g k : Nat} (h : w.rowIs g 43 (k * 3) (cellF k)) (hk : 0 < k) : ∃ l, l.length = k ∧ VIn (w.setCell ⟨g, 0, none⟩ (.int .i32 (-1))) (.slice (some ⟨g, 0, none⟩) k k) l := by
  have h2 := h.set 0 (.int .i32 (-1))
  refine ⟨⟨-1, 0, 1⟩ :: (full k).tail, by simp [full_len]; omega, some ⟨g, 0, none⟩, k, by simp [full_len]; omega, fun j hj => ?_, fun j hj => ⟨g, 0, rfl, h2.lt, ?_⟩⟩
  · simp [Value.ownBlock] at hj; subst hj; exact h2.lt
  · have hj' : j < k := by simp [full_len] at hj; omega
    rw [Nat.zero_add, h2.cell (by omega), h2.cell (by omega), h2.cell (by omega)]
    cases j with
    | zero => simp [cellF, hk]
    | succ j =>
      have e : (⟨-1, 0, 1⟩ :: (full k).tail : List (SRow Int))[j + 1]? = some ⟨2 * ((j + 1 : Nat) : Int), 2 * ((j + 1 : Nat) : Int), 1⟩ := by
        rw [List.getElem?_cons_succ, List.getElem?_tail, full_get k (j + 1) hj']
      have e' := Option.some.inj ((List.getElem?_eq_getElem hj).symm.trans e)
      rw [e']
      have q0 : ((j + 1) * 3) / 3 = j + 1 := by omega
      have q1 : ((j + 1) * 3 + 1) / 3 = j + 1 := by omega
      have q2 : ((j + 1) * 3 + 2) / 3 = j + 1 := by omega
      have m0 : ((j + 1) * 3) % 3 = 0 := by omega
      have m1 : ((j + 1) * 3 + 1) % 3 = 1 := by omega
      have m2 : ((j + 1) * 3 + 2) % 3 = 2 := by omega
      have z0 : ¬ (j + 1) * 3 = 0 := by omega
      simp [cellF, q0, q1, q2, m0, m1, m2, hj']
end Go.Proofs.Ytpfnljebofgifab
