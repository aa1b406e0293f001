import Derived.Test.YtclcmkklonnalaaHan1
import Derived.ChangeKeysEq
namespace Go.Proofs.Ytclcmkklonnalaa.Ha
open Go.RowKit

set_option maxHeartbeats 400000 in
theorem rparts_yes (r : Int) (w : World) (h1 : 44032 ≤ r) (h2 : r ≤ 55203) :
    Calls Try.prog 84 #[.int .i64 r] w fun e w' => e = .returned (.tuple #[.agg #[.int .i64 (ledI r), .int .i64 (vowI r), .int .i64 (talI r)], .bool true]) ∧ Below w.heap.size w w' := by
  by_cases ht : 0 < (r - 44032) % 28
  · have H : Hid (talI r = 4519 + (r - 44032) % 28) := if_pos ht
    go_enter Try.func84, Try.ntmps84
    go_wp2
    exact bodyPost_ret (v := .tuple #[.agg #[.int .i64 (ledI r), .int .i64 (vowI r), .int .i64 (talI r)], .bool true]) (by rw [H.out]; simp [results, Try.results84, go_sem, ledI, vowI]) rfl ⟨rfl, by repeat (first | exact Below.refl _ _ | refine Below.alloc ?_ (by simp) _ | refine Below.setCell ?_ (by simp) _)⟩
  · have H : Hid (talI r = 0) := if_neg ht
    go_enter Try.func84, Try.ntmps84
    go_wp2
    exact bodyPost_ret (v := .tuple #[.agg #[.int .i64 (ledI r), .int .i64 (vowI r), .int .i64 (talI r)], .bool true]) (by rw [H.out]; simp [results, Try.results84, go_sem, ledI, vowI]) rfl ⟨rfl, by repeat (first | exact Below.refl _ _ | refine Below.alloc ?_ (by simp) _ | refine Below.setCell ?_ (by simp) _)⟩

theorem tal_zero (r : Int) (h1 : 44032 ≤ r) (h2 : r ≤ 55203) : (talI r == 0) = opnB r := by
  have hs : sylB r = true := decide_eq_true (by omega)
  unfold opnB talI
  rw [hs, Bool.true_and, Bool.eq_iff_iff]
  simp only [beq_iff_eq, decide_eq_true_eq]
  split <;> omega

theorem Try.guard3 : Try.prog.eqGuardType Try.prog.depth 122 = false := by kernel_rfl
theorem run_eq3 (w : World) (a b c : Int) : (Op.equalIn 10000 122 (.agg #[.int .i64 a, .int .i64 b, .int .i64 c]) (.agg #[.int .i64 a, .int .i64 b, .int .i64 c])).run Try.prog w = .ok true w := by
  have hs : (Try.prog.info? 3).isSome = true := by kernel_rfl
  obtain ⟨i, hi⟩ := Option.isSome_iff_exists.1 hs
  have hc : Try.prog.cellsOf 3 = 1 := by kernel_rfl
  rw [show 10000 = 9999 + 1 from rfl, run_equalIn_array w 9999 _ _ Try.underlying122 hi, hc]
  have hp : ∀ (cs : Array Value) (off : Nat) (w : World), (part 3 cs off).run Try.prog w = (match cs[off]? with | some v => Result.ok v w | none => (part 3 cs off).run Try.prog w) := fun cs off w => by
    cases h : cs[off]? with
    | none => rfl
    | some v => simp [part, isAgg, run_underlying Try.underlying3, h]
  have he : ∀ (a b : Int) (w : World), (Op.equalIn 9999 3 (.int .i64 a) (.int .i64 b)).run Try.prog w = .ok (a == b) w := fun a b w => run_equalIn_int w 9998 3 .i64 .i64 a b Try.underlying3
  simp [List.range, List.range.loop, Op.eqItems, hp, he]

/-- The reference's join. -/
def rjI (a b : Int) : Int := if lvB a b = true then lvI a b else if otB a b = true then otI a b else -1

set_option maxHeartbeats 1000000 in
theorem rjoin_any (a b : Int) (w : World) (a1 : -2147483648 ≤ a) (a2 : a ≤ 2147483647) (b1 : -2147483648 ≤ b) (b2 : b ≤ 2147483647) :
    Calls Try.prog 88 #[.int .i64 a, .int .i64 b] w fun e w' => e = .returned (.int .i64 (rjI a b)) ∧ Below w.heap.size w w' := by
  by_cases h : 4352 ≤ a ∧ a ≤ 4370 ∧ 4449 ≤ b ∧ b ≤ 4469
  · have hl : lvB a b = true := by unfold lvB witB; rw [decide_eq_true (by omega), decide_eq_true (by omega)]; rfl
    have H : Hid (rjI a b = lvI a b) := if_pos hl
    obtain ⟨p1, p2, p3, p4⟩ := h
    clear hl
    go_enter Try.func88, Try.ntmps88
    go_wp2
    go_ret
    exact ⟨ret_int H.out.symm, Below.refl _ _⟩
  have hl : ¬ lvB a b = true := by
    unfold lvB witB
    rw [Bool.and_eq_true]
    simp only [decide_eq_true_eq]
    omega
  have E : Hid (rjI a b = if otB a b = true then otI a b else -1) := if_neg hl
  clear hl
  by_cases hs : 44032 ≤ a ∧ a ≤ 55203
  · obtain ⟨s1, s2⟩ := hs
    have tz := tal_zero a s1 s2
    have hP := hid (fun w => rparts_yes a w s1 s2)
    have n1 : ¬ a ≤ 4370 := by omega
    clear h
    by_cases ho : opnB a = true
    · rw [ho] at tz
      by_cases hb : 4520 ≤ b ∧ b ≤ 4546
      · have H : Hid (rjI a b = otI a b) := by
          show rjI a b = otI a b
          rw [E.out, if_pos]
          unfold otB witB
          rw [ho, decide_eq_true (by omega)]; rfl
        obtain ⟨p1, p2⟩ := hb
        have e1 : a + b - 4519 = otI a b := by unfold otI; omega
        have e2 := hid e1
        clear e1
        go_enter Try.func88, Try.ntmps88
        go_wp2_with (go_at_call 84; refine (hP.out _).mono ?_; rintro e w' ⟨rfl, hb'⟩; have hok := hid ((Ok.start w).step hb'); clear hb')
        go_ret
        exact ⟨ret_int (e2.out.trans H.out.symm), hok.out.alloc.1⟩
      · have H : Hid (rjI a b = -1) := by
          show rjI a b = -1
          rw [E.out, if_neg]
          unfold otB witB
          rw [Bool.and_eq_true, decide_eq_true_eq]
          omega
        have hb' : b < 4520 ∨ (4520 ≤ b ∧ ¬ b ≤ 4546) := by omega
        clear hb
        rcases hb' with hb | ⟨hb, hb2⟩
        all_goals
          go_enter Try.func88, Try.ntmps88
          go_wp2_with (go_at_call 84; refine (hP.out _).mono ?_; rintro e w' ⟨rfl, hb'⟩; have hok := hid ((Ok.start w).step hb'); clear hb')
          go_ret
          exact ⟨ret_int H.out.symm, hok.out.alloc.1⟩
    · have ho' : opnB a = false := by simpa using ho
      rw [ho'] at tz
      have H : Hid (rjI a b = -1) := by
        show rjI a b = -1
        rw [E.out, if_neg]
        unfold otB
        rw [ho', Bool.false_and]; exact Bool.false_ne_true
      go_enter Try.func88, Try.ntmps88
      go_wp2_with (go_at_call 84; refine (hP.out _).mono ?_; rintro e w' ⟨rfl, hb'⟩; have hok := hid ((Ok.start w).step hb'); clear hb')
      go_ret
      exact ⟨ret_int H.out.symm, hok.out.alloc.1⟩
  · have hs0 : sylB a = false := decide_eq_false (by omega)
    have H : Hid (rjI a b = -1) := by
      show rjI a b = -1
      rw [E.out, if_neg]
      unfold otB opnB
      rw [hs0, Bool.false_and, Bool.false_and]; exact Bool.false_ne_true
    have hP := hid (fun w => rparts_no a w (by omega))
    have hc : a < 4352 ∨ (4352 ≤ a ∧ ¬ a ≤ 4370) ∨ (4352 ≤ a ∧ a ≤ 4370 ∧ b < 4449) ∨ (4352 ≤ a ∧ a ≤ 4370 ∧ 4449 ≤ b ∧ ¬ b ≤ 4469) := by omega
    clear h hs hs0
    rcases hc with h | ⟨h, k⟩ | ⟨h, k, l⟩ | ⟨h, k, l, m⟩
    all_goals
      go_enter Try.func88, Try.ntmps88
      go_wp2_with (go_at_call 84; refine (hP.out _).mono ?_; rintro e w' ⟨rfl, hb'⟩; have hok := hid ((Ok.start w).step hb'); clear hb')
      go_ret
      exact ⟨ret_int H.out.symm, hok.out.alloc.1⟩
end Go.Proofs.Ytclcmkklonnalaa.Ha
