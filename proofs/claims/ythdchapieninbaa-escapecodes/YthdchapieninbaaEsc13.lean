import Derived.Test.YthdchapieninbaaEsc7
namespace Go.Proofs.Ythdchapieninbaa
open Go.RowKit

theorem cnt_run (s : ByteArray) (c : Int) (w : World) : (callFunc 41 #[.string s, .int .u8 c]).run Try.prog w = .ok (.value (.int .i64 (Lib.countByte s.data.toList c.toNat.toUInt8))) w := by
  rw [run_callFunc_extern Try.func41 (by kernel_rfl) (by kernel_rfl) (by kernel_rfl) (e := Extern.BytealgCount.count) (by kernel_rfl), Lib.run_countString]; rfl

theorem cnt_any (s : ByteArray) (w : World) :
    Calls Try.prog 28 #[.string s, .string ⟨#[37]⟩] w fun e w' => e = .returned (.int .i64 (Lib.countByte s.data.toList 37)) ∧ w' = w := by
  have h := cnt_run s
  go_enter Try.func28, Try.ntmps28
  go_wp2
  go_ret
  exact ⟨rfl, rfl⟩

theorem hex_no37 (c : UInt8) (h : 0 ≤ valR c.toNat) : ¬ c.toNat = 37 := by
  intro e; rw [e] at h; exact absurd h (by decide)
theorem u37 (c : UInt8) : (c == 37) = decide (c.toNat = 37) := by
  rw [Bool.eq_iff_iff, beq_iff_eq, decide_eq_true_iff]
  constructor
  · rintro rfl; rfl
  · intro h; exact UInt8.toNat_inj.1 h

theorem right_no37 (c : UInt8) (l : List UInt8) (h : ¬ c.toNat = 37) : rightL (c :: l) = rightL l := by
  rw [rightL, decide_eq_false h]; rfl
theorem count_no37 (c : UInt8) (l : List UInt8) (h : ¬ c.toNat = 37) : (c :: l).count 37 = l.count 37 := by
  rw [List.count_cons, u37, decide_eq_false h]; rfl
theorem count_37 (c : UInt8) (l : List UInt8) (h : c.toNat = 37) : (c :: l).count 37 = l.count 37 + 1 := by
  rw [List.count_cons, u37, decide_eq_true h]; rfl
theorem right_37 (c : UInt8) (l : List UInt8) (h : c.toNat = 37) : rightL (c :: l) = (decide (0 ≤ atL (c :: l)) && rightL l) := by
  rw [rightL, decide_eq_true h]; rfl

/-- A byte that begins no escape. -/
theorem right_step (c : UInt8) (l : List UInt8) (m : Nat) (ha : atL (c :: l) < 0) (h : m ≤ l.count 37 ∧ (l.count 37 = m ↔ rightL l = true)) : m ≤ (c :: l).count 37 ∧ ((c :: l).count 37 = m ↔ rightL (c :: l) = true) := by
  by_cases h37 : c.toNat = 37
  · rw [count_37 c l h37, right_37 c l h37, decide_eq_false (by omega)]
    refine ⟨by omega, ?_⟩
    simp
    omega
  · rw [count_no37 c l h37, right_no37 c l h37]; exact h

theorem right_count : ∀ (l : List UInt8) (k : Nat), (escs k l).length ≤ l.count 37 ∧ (l.count 37 = (escs k l).length ↔ rightL l = true)
  | [], k => by simp [escs, rightL]
  | [a], k => right_step a [] 0 (by show (-1 : Int) < 0; omega) (by simp [rightL])
  | [a, b], k => right_step a [b] 0 (by show (-1 : Int) < 0; omega) (right_step b [] 0 (by show (-1 : Int) < 0; omega) (by simp [rightL]))
  | a :: b :: c :: r, k => by
    by_cases ha : 0 ≤ atL (a :: b :: c :: r)
    · have hc : a.toNat = 37 ∧ 0 ≤ valR b.toNat ∧ 0 ≤ valR c.toNat := by
        by_cases hc : a.toNat = 37 ∧ 0 ≤ valR b.toNat ∧ 0 ≤ valR c.toNat
        · exact hc
        · rw [atL, if_neg hc] at ha; omega
      have ih := right_count r (k + 3)
      rw [escs, if_pos ha, List.length_cons, count_37 a _ hc.1, count_no37 b _ (hex_no37 b hc.2.1), count_no37 c _ (hex_no37 c hc.2.2), right_37 a _ hc.1, right_no37 b _ (hex_no37 b hc.2.1), right_no37 c _ (hex_no37 c hc.2.2), decide_eq_true ha, Bool.true_and]
      exact ⟨by omega, by rw [← ih.2]; omega⟩
    · rw [escs, if_neg ha]
      exact right_step a _ _ (by omega) (right_count (b :: c :: r) (k + 1))

theorem right_is (l : List UInt8) : (((l.count 37 : Nat) : Int) == (((escs 0 l).length : Nat) : Int)) = rightL l := by
  have h := (right_count l 0).2
  rw [Bool.eq_iff_iff, beq_iff_eq, ← h]
  omega

theorem right_any (s : ByteArray) (w : World) (hs : s.size ≤ 1000000) :
    Calls Try.prog 11 #[.string s] w fun e w' => e = .returned (.bool (rightL s.data.toList)) ∧ Below w.heap.size w w' := by
  have HR := hid (right_is s.data.toList)
  have HC := hid (fun w => cnt_any s w)
  have HN := hid (fun w => count_any s w hs)
  unfold Lib.countByte at HC
  generalize List.count 37 s.data.toList = m at *
  generalize (escs 0 s.data.toList).length = n at *
  go_enter Try.func11, Try.ntmps11
  go_wp2_with (first | (go_at_call 28; refine (HC.out _).mono ?_; rintro e w' ⟨rfl, rfl⟩) | (go_at_call 29; refine (HN.out _).mono ?_; rintro e w' ⟨rfl, hb⟩))
  go_ret
  exact ⟨ret_bool HR.out, hb⟩
end Go.Proofs.Ythdchapieninbaa
