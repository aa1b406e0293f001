/-
  For all runes a and b the law HangulJoins returns true, and both arguments read behind the call as they read before. No condition.
-/
import Derived.Test.YtfbphacbnmimkacRows
import Derived.Test.YtfbphacbnmimkacHan2
import Derived.WalkKit
import Derived.ProofKit
import Derived.OpenShut
import Derived.ShutString
import Derived.ChangeOld
import Derived.Below
namespace Go.Proofs.Ytfbphacbnmimkac.hangulJoins
open Go.ChangeShapes Go.WideShapes Go.ChangeAt Go.RowKit
open Go.ChangeMaps (open_string shut_string)
set_option linter.unusedVariables false

theorem own : ownKnob Try.prog.godebug = none := by kernel_rfl

theorem rune_wf {a : Int} (h : (Lit.int .i32 a).wf = true) : -2147483648 ≤ a ∧ a ≤ 2147483647 := by
  simp only [Lit.wf, Bool.and_eq_true, decide_eq_true_eq] at h; exact h

theorem lv_bd (a b : Int) (h : lvB a b = true) : 44032 ≤ lvI a b ∧ lvI a b ≤ 55203 := by
  unfold lvB at h
  rw [Bool.and_eq_true] at h
  have h1 := of_decide_eq_true h.1
  have h2 := of_decide_eq_true h.2
  unfold lvI; omega
theorem ot_bd (a b : Int) (h : otB a b = true) : 44032 ≤ otI a b ∧ otI a b ≤ 60000 := by
  unfold otB at h
  rw [Bool.and_eq_true] at h
  have h1 := h.1
  unfold opnB at h1
  rw [Bool.and_eq_true] at h1
  have h3 := of_decide_eq_true h1.1
  have h2 := of_decide_eq_true h.2
  unfold otI; omega

set_option maxHeartbeats 1000000 in
theorem walk (a0 : Int) (a1 : Int) (w0 : (Lit.int .i32 a0).wf = true) (w1 : (Lit.int .i32 a1).wf = true) (w : World) :
    Calls Try.prog 4 #[.int .i32 a0, .int .i32 a1] w fun e w' => e = .returned (.bool true) ∧ Below w.heap.size w w' := by
  have hok := Ok.start w
  obtain ⟨r1, r2⟩ := rune_wf w0
  obtain ⟨r3, r4⟩ := rune_wf w1
  have hR := hid (fun w => rjoin_any a0 a1 w r1 r2 r3 r4)
  clear w0 w1
  cases hl : lvB a0 a1
  · cases ho : otB a0 a1
    · have e : rjI a0 a1 = -1 := by unfold rjI; rw [hl, ho]; rfl
      rw [e] at hR
      clear e
      go_enter Try.func4, Try.ntmps4
      go_wp2_with (first | (go_at_call 13; refine (join_no _ _ _ hl ho).mono ?_; rintro e w' ⟨rfl, rfl⟩) | (go_at_call 14; refine (hR.out _).mono ?_; rintro e w' ⟨rfl, hb'⟩; replace hok := hok.step hb'; clear hb') | (go_at_call 12; refine (hawake_any _).mono ?_; rintro e w' ⟨rfl, rfl⟩))
      go_ret
      exact ⟨rfl, hok.1⟩
    · obtain ⟨o1, o2⟩ := ot_bd a0 a1 ho
      have e : rjI a0 a1 = otI a0 a1 := by unfold rjI; rw [hl, ho]; rfl
      rw [e] at hR
      clear e
      go_enter Try.func4, Try.ntmps4
      go_wp2_with (first | (go_at_call 13; refine (join_ot _ _ _ ho).mono ?_; rintro e w' ⟨rfl, rfl⟩) | (go_at_call 14; refine (hR.out _).mono ?_; rintro e w' ⟨rfl, hb'⟩; replace hok := hok.step hb'; clear hb') | (go_at_call 12; refine (hawake_any _).mono ?_; rintro e w' ⟨rfl, rfl⟩))
      go_ret
      exact ⟨rfl, hok.1⟩
  · obtain ⟨o1, o2⟩ := lv_bd a0 a1 hl
    have e : rjI a0 a1 = lvI a0 a1 := by unfold rjI; rw [hl]; rfl
    rw [e] at hR
    clear e
    go_enter Try.func4, Try.ntmps4
    go_wp2_with (first | (go_at_call 13; refine (join_lv _ _ _ hl).mono ?_; rintro e w' ⟨rfl, rfl⟩) | (go_at_call 14; refine (hR.out _).mono ?_; rintro e w' ⟨rfl, hb'⟩; replace hok := hok.step hb'; clear hb') | (go_at_call 12; refine (hawake_any _).mono ?_; rintro e w' ⟨rfl, rfl⟩))
    go_ret
    exact ⟨rfl, hok.1⟩

set_option maxRecDepth 100000 in
theorem lifted (os : Os) (started : os.Started) (H : Type) (enc : TypeId × Value → H) :
    ReturnsInHanded {} Try.checked os 4 .any (Rows.hangulJoinsSpec.pre6 enc Try.prog Try.f4 Rows.hangulJoinsRow.domain false) (Rows.hangulJoinsSpec.post enc Try.prog Try.f4 false true false false) := by
  refine returnsInHanded_of_change (C := Try.checked) own started (by kernel_rfl) Try.func4
    (ChangeSpec.witness6 (enc := enc) (C := Try.checked) false ⟨#[], #[.int .i32 0, .int .i32 0], []⟩ 8 (by kernel_rfl) (by kernel_rfl) (by kernel_rfl) (by kernel_rfl)) ?_
  intro W base args ds gs before hval0 hW hcnd _
  have hval : ∀ (j : Nat) t v, Try.f4.params[j]? = some t → args[j]? = some v → Value.okWide Try.prog W .any base t v := hval0
  have hW' := hW
  obtain ⟨p, q, hA0, hV, rfl, hfz, hnd⟩ := hW
  have hA : DataW.TrodAll enc Try.prog W 0 (fun _ => true) true Try.f4.params.toList args.toList ds p := hA0
  rw [Try.params4] at hA hval
  obtain ⟨v0, vs0, d0, ds0, p0, q0, hargs, rfl, rfl, h0, r0⟩ := trodAll_cons hA
  obtain ⟨v1, vs1, d1, ds1, p1, q1, rfl, rfl, rfl, h1, r1⟩ := trodAll_cons r0
  obtain ⟨rfl, rfl, rfl⟩ := trodAll_nil r1
  obtain rfl : args = #[v0, v1] := by cases args; simp_all
  obtain ⟨rfl, rfl⟩ := trodVars_none hV
  obtain ⟨a0, rfl, rfl, rfl, w0⟩ := open_int Try.underlying21 (hval 0 21 v0 rfl rfl) h0
  obtain ⟨a1, rfl, rfl, rfl, w1⟩ := open_int Try.underlying21 (hval 1 21 v1 rfl rfl) h1
  clear hA0 hval0
  refine (walk a0 a1 w0 w1 W).mono fun e W' ⟨he, bel⟩ => ?_
  subst he
  exact ⟨_, rfl, _, _, _, [], _, [], hW', trodAll_mk1 (shut_bool Try.underlying4 _), (trodAll_cons_mk (shut_int Try.underlying21 w0) (trodAll_cons_mk (shut_int Try.underlying21 w1) trodAll_mk0)), rfl, bel.frame _, fun h => by cases h⟩

theorem over : Rows.hangulJoinsRow.holds Try.pinned (OpenSpec.ofChange Rows.hangulJoinsSpec) :=
  OpenClaim.holds_of_wide 4 Try.f4 rfl rfl rfl rfl rfl rfl rfl ⟨rfl, rfl, rfl, rfl, rfl⟩ rfl rfl rfl rfl rfl (by kernel_rfl) Try.func4 (by kernel_rfl)
    (of_decide_eq_true (by kernel_rfl)) (by unfold Func.isWrapper; first | (rw [if_pos (by decide +kernel)]; kernel_rfl) | (rw [if_neg (by decide +kernel)]; exact ⟨rfl, rfl⟩))
    (fun os started H enc _ => lifted os started H enc)

end Go.Proofs.Ytfbphacbnmimkac.hangulJoins
namespace Go.Proofs.Ytfbphacbnmimkac
theorem hangulJoins_holds : Rows.HangulJoinsSaid := hangulJoins.over
#print axioms hangulJoins_holds
end Go.Proofs.Ytfbphacbnmimkac
