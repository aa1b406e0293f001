/-
  For every rune r and every int n the law HangulSplits returns true, and both arguments read behind the call as they read before. No condition.
-/
import Derived.Test.YtfbphacbnmimkacRows
import Derived.Test.YtfbphacbnmimkacHan2
import Derived.WalkKit
import Derived.ProofKit
import Derived.OpenShut
import Derived.ShutString
import Derived.ChangeOld
import Derived.Below
namespace Go.Proofs.Ytfbphacbnmimkac.hangulSplits
open Go.ChangeShapes Go.WideShapes Go.ChangeAt Go.RowKit
open Go.ChangeMaps (open_string shut_string)
set_option linter.unusedVariables false

theorem own : ownKnob Try.prog.godebug = none := by kernel_rfl

theorem rune_wf {a : Int} (h : (Lit.int .i32 a).wf = true) : -2147483648 ≤ a ∧ a ≤ 2147483647 := by
  simp only [Lit.wf, Bool.and_eq_true, decide_eq_true_eq] at h; exact h


set_option maxHeartbeats 1000000 in
theorem walk (a0 : Int) (a1 : Int) (w0 : (Lit.int .i32 a0).wf = true) (w1 : (Lit.int .i64 a1).wf = true) (w : World) :
    Calls Try.prog 3 #[.int .i32 a0, .int .i64 a1] w fun e w' => e = .returned (.bool true) ∧ Below w.heap.size w w' := by
  have hok := Ok.start w
  have hgd := Try.guard3
  have heq := run_eq3
  obtain ⟨r1, r2⟩ := rune_wf w0
  clear w0 w1
  have hA : ∃ x t, Hid (∀ w : World, Calls Try.prog 11 #[.int .i64 a1] w fun e w' => e = .returned (.tuple #[.int .i32 x, .bool t]) ∧ w' = w) ∧ ((0 ≤ a1 ∧ a1 < 11172 ∧ x = 44032 + a1 ∧ t = true) ∨ (a1 < 0 ∧ x = 0 ∧ t = false) ∨ (0 ≤ a1 ∧ 11172 ≤ a1 ∧ x = 0 ∧ t = false)) := by
    by_cases h : 0 ≤ a1 ∧ a1 < 11172
    · exact ⟨_, _, hid (fun w => at_yes a1 w h.1 h.2), .inl ⟨h.1, h.2, rfl, rfl⟩⟩
    · rcases (show a1 < 0 ∨ (0 ≤ a1 ∧ 11172 ≤ a1) by omega) with k | k
      · exact ⟨_, _, hid (fun w => at_no a1 w (.inl k)), .inr (.inl ⟨k, rfl, rfl⟩)⟩
      · exact ⟨_, _, hid (fun w => at_no a1 w (.inr k.2)), .inr (.inr ⟨k.1, k.2, rfl, rfl⟩)⟩
  obtain ⟨x, t, hA, hc⟩ := hA
  by_cases h : 44032 ≤ a0 ∧ a0 ≤ 55203
  · obtain ⟨s1, s2⟩ := h
    have hs : sylB a0 = true := decide_eq_true (by omega)
    have tz := tal_zero a0 s1 s2
    obtain ⟨l1, l2⟩ := led_bd a0 ⟨s1, s2⟩
    obtain ⟨v1, v2⟩ := vow_bd a0
    obtain ⟨t1, t2⟩ := tal_bd a0
    rcases hc with ⟨h1, h2, rfl, rfl⟩ | ⟨h1, rfl, rfl⟩ | ⟨h1, h2, rfl, rfl⟩
    all_goals
      go_enter Try.func3, Try.ntmps3
      go_wp2_with (first | (go_at_call 6; refine (split_yes _ _ s1 s2).mono ?_; rintro e w' ⟨rfl, rfl⟩) | (go_at_call 7; refine (rparts_yes _ _ s1 s2).mono ?_; rintro e w' ⟨rfl, hb'⟩; replace hok := hok.step hb'; clear hb') | (go_at_call 8; refine (syl_any _ _).mono ?_; rintro e w' ⟨rfl, rfl⟩) | (go_at_call 9; refine (opn_any _ _).mono ?_; rintro e w' ⟨rfl, rfl⟩) | (go_at_call 10; refine (num_yes _ _ s1 s2).mono ?_; rintro e w' ⟨rfl, rfl⟩) | (go_at_call 11; refine (hA.out _).mono ?_; rintro e w' ⟨rfl, rfl⟩) | (go_at_call 12; refine (hawake_any _).mono ?_; rintro e w' ⟨rfl, rfl⟩))
      go_ret
      exact ⟨rfl, hok.alloc.1⟩
  · have hs : sylB a0 = false := decide_eq_false (by omega)
    have ho : opnB a0 = false := by unfold opnB; rw [hs, Bool.false_and]
    have hS := hid (fun w => split_no a0 w h)
    have hP := hid (fun w => rparts_no a0 w (by omega))
    have hN := hid (fun w => num_no a0 w h)
    clear h
    rcases hc with ⟨h1, h2, rfl, rfl⟩ | ⟨h1, rfl, rfl⟩ | ⟨h1, h2, rfl, rfl⟩
    all_goals
      go_enter Try.func3, Try.ntmps3
      go_wp2_with (first | (go_at_call 6; refine (hS.out _).mono ?_; rintro e w' ⟨rfl, rfl⟩) | (go_at_call 7; refine (hP.out _).mono ?_; rintro e w' ⟨rfl, hb'⟩; replace hok := hok.step hb'; clear hb') | (go_at_call 8; refine (syl_any _ _).mono ?_; rintro e w' ⟨rfl, rfl⟩) | (go_at_call 9; refine (opn_any _ _).mono ?_; rintro e w' ⟨rfl, rfl⟩) | (go_at_call 10; refine (hN.out _).mono ?_; rintro e w' ⟨rfl, rfl⟩) | (go_at_call 11; refine (hA.out _).mono ?_; rintro e w' ⟨rfl, rfl⟩) | (go_at_call 12; refine (hawake_any _).mono ?_; rintro e w' ⟨rfl, rfl⟩))
      go_ret
      exact ⟨rfl, hok.alloc.1⟩

set_option maxRecDepth 100000 in
theorem lifted (os : Os) (started : os.Started) (H : Type) (enc : TypeId × Value → H) :
    ReturnsInHanded {} Try.checked os 3 .any (Rows.hangulSplitsSpec.pre6 enc Try.prog Try.f3 Rows.hangulSplitsRow.domain false) (Rows.hangulSplitsSpec.post enc Try.prog Try.f3 false true false false) := by
  refine returnsInHanded_of_change (C := Try.checked) own started (by kernel_rfl) Try.func3
    (ChangeSpec.witness6 (enc := enc) (C := Try.checked) false ⟨#[], #[.int .i32 0, .int .i64 0], []⟩ 8 (by kernel_rfl) (by kernel_rfl) (by kernel_rfl) (by kernel_rfl)) ?_
  intro W base args ds gs before hval0 hW hcnd _
  have hval : ∀ (j : Nat) t v, Try.f3.params[j]? = some t → args[j]? = some v → Value.okWide Try.prog W .any base t v := hval0
  have hW' := hW
  obtain ⟨p, q, hA0, hV, rfl, hfz, hnd⟩ := hW
  have hA : DataW.TrodAll enc Try.prog W 0 (fun _ => true) true Try.f3.params.toList args.toList ds p := hA0
  rw [Try.params3] at hA hval
  obtain ⟨v0, vs0, d0, ds0, p0, q0, hargs, rfl, rfl, h0, r0⟩ := trodAll_cons hA
  obtain ⟨v1, vs1, d1, ds1, p1, q1, rfl, rfl, rfl, h1, r1⟩ := trodAll_cons r0
  obtain ⟨rfl, rfl, rfl⟩ := trodAll_nil r1
  obtain rfl : args = #[v0, v1] := by cases args; simp_all
  obtain ⟨rfl, rfl⟩ := trodVars_none hV
  obtain ⟨a0, rfl, rfl, rfl, w0⟩ := open_int Try.underlying21 (hval 0 21 v0 rfl rfl) h0
  obtain ⟨a1, rfl, rfl, rfl, w1⟩ := open_int Try.underlying3 (hval 1 3 v1 rfl rfl) h1
  clear hA0 hval0
  refine (walk a0 a1 w0 w1 W).mono fun e W' ⟨he, bel⟩ => ?_
  subst he
  exact ⟨_, rfl, _, _, _, [], _, [], hW', trodAll_mk1 (shut_bool Try.underlying4 _), (trodAll_cons_mk (shut_int Try.underlying21 w0) (trodAll_cons_mk (shut_int Try.underlying3 w1) trodAll_mk0)), rfl, bel.frame _, fun h => by cases h⟩

theorem over : Rows.hangulSplitsRow.holds Try.pinned (OpenSpec.ofChange Rows.hangulSplitsSpec) :=
  OpenClaim.holds_of_wide 3 Try.f3 rfl rfl rfl rfl rfl rfl rfl ⟨rfl, rfl, rfl, rfl, rfl⟩ rfl rfl rfl rfl rfl (by kernel_rfl) Try.func3 (by kernel_rfl)
    (of_decide_eq_true (by kernel_rfl)) (by unfold Func.isWrapper; first | (rw [if_pos (by decide +kernel)]; kernel_rfl) | (rw [if_neg (by decide +kernel)]; exact ⟨rfl, rfl⟩))
    (fun os started H enc _ => lifted os started H enc)

end Go.Proofs.Ytfbphacbnmimkac.hangulSplits
namespace Go.Proofs.Ytfbphacbnmimkac
theorem hangulSplits_holds : Rows.HangulSplitsSaid := hangulSplits.over
#print axioms hangulSplits_holds
end Go.Proofs.Ytfbphacbnmimkac
