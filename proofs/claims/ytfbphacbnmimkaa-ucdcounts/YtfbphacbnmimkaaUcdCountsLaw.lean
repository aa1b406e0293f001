/-
  For every int kind the law UcdCounts returns true, and kind reads behind the call as it read before. No condition.
-/
import Derived.Test.YtfbphacbnmimkaaRows
import Derived.Test.YtfbphacbnmimkaaUcd20
import Derived.WalkKit
import Derived.ProofKit
import Derived.OpenShut
import Derived.ShutString
import Derived.ChangeOld
import Derived.Below
namespace Go.Proofs.Ytfbphacbnmimkaa.ucdCounts
open Go.ChangeShapes Go.WideShapes Go.ChangeAt Go.RowKit
open Go.ChangeMaps (open_string shut_string)
set_option linter.unusedVariables false

theorem own : ownKnob Try.prog.godebug = none := by kernel_rfl

theorem book_lenM : bookL.length ≤ maxLen := Nat.le_trans book_le (by unfold maxLen; decide)

set_option maxHeartbeats 2000000 in
set_option maxRecDepth 100000 in
theorem walk (a0 : Int) (w0 : (Lit.int .i64 a0).wf = true) (w : World) :
    Calls Try.prog 4 #[.int .i64 a0] w fun e w' => e = .returned (.bool true) ∧ Below w.heap.size w w' := by
  have HA := hid book_awake
  have HN := hid (new_any w)
  have HC := hid (fun (w : World) (b : Nat) (p : Nat) (rv : Value) (h : Book w b bookL p rv) => count_any h book_lenM a0)
  have HR := hid (fun w => rcount_any w a0)
  have hE := hid (cnt_eq a0)
  have hO := hid (cnt_out a0)
  generalize cntP a0 0 bookL = c at *
  generalize rcntV allT a0 = d at *
  generalize bookL = L at *
  have h0 := Ok.start w
  clear w0
  by_cases hl : a0 < 0 ∨ 11 < a0
  · have e := hO.out hl
    subst e
    rcases hl with hl | hl
    all_goals
      go_enter Try.func4, Try.ntmps4
      go_wp2_with fail
      refine HN.out.mono ?_
      rintro e w1 ⟨b, p, rv, rfl, hb1, hB1⟩
      have HB := hid hB1
      replace h0 := h0.step hb1
      clear hB1 hb1
      go_wp2_with (first | (go_at_call 16; refine (HC.out _ _ _ _ HB.out).mono ?_; rintro e w2 ⟨rfl, hb2⟩; replace h0 := h0.step hb2; replace HB := hid (HB.out.step hb2); clear hb2) | (go_at_call 8; refine (awake_any HB.out HA.out).mono ?_; rintro e w2 ⟨rfl, hb2⟩; replace h0 := h0.step hb2; clear hb2))
      go_ret
      exact ⟨rfl, h0.1⟩
  · have e := hE.out (by omega) (by omega)
    subst e
    have l0 : 0 ≤ a0 := by omega
    have l1 : a0 ≤ 11 := by omega
    clear hl
    go_enter Try.func4, Try.ntmps4
    go_wp2_with fail
    refine HN.out.mono ?_
    rintro e w1 ⟨b, p, rv, rfl, hb1, hB1⟩
    have HB := hid hB1
    replace h0 := h0.step hb1
    clear hB1 hb1
    go_wp2_with (first | (go_at_call 16; refine (HC.out _ _ _ _ HB.out).mono ?_; rintro e w2 ⟨rfl, hb2⟩; replace h0 := h0.step hb2; replace HB := hid (HB.out.step hb2); clear hb2) | (go_at_call 17; refine (HR.out _).mono ?_; rintro e w2 ⟨rfl, hb2⟩; replace h0 := h0.step hb2; replace HB := hid (HB.out.step hb2); clear hb2) | (go_at_call 8; refine (awake_any HB.out HA.out).mono ?_; rintro e w2 ⟨rfl, hb2⟩; replace h0 := h0.step hb2; clear hb2))
    go_ret
    exact ⟨rfl, h0.1⟩

set_option maxRecDepth 100000 in
theorem lifted (os : Os) (started : os.Started) (H : Type) (enc : TypeId × Value → H) :
    ReturnsInHanded {} Try.checked os 4 .any (Rows.ucdCountsSpec.pre6 enc Try.prog Try.f4 Rows.ucdCountsRow.domain false) (Rows.ucdCountsSpec.post enc Try.prog Try.f4 false true false false) := by
  refine returnsInHanded_of_change (C := Try.checked) own started (by kernel_rfl) Try.func4
    (ChangeSpec.witness6 (enc := enc) (C := Try.checked) false ⟨#[], #[.int .i64 0], []⟩ 8 (by kernel_rfl) (by kernel_rfl) (by kernel_rfl) (by kernel_rfl)) ?_
  intro W base args ds gs before hval0 hW hcnd _
  have hval : ∀ (j : Nat) t v, Try.f4.params[j]? = some t → args[j]? = some v → Value.okWide Try.prog W .any base t v := hval0
  have hW' := hW
  obtain ⟨p, q, hA0, hV, rfl, hfz, hnd⟩ := hW
  have hA : DataW.TrodAll enc Try.prog W 0 (fun _ => true) true Try.f4.params.toList args.toList ds p := hA0
  rw [Try.params4] at hA hval
  obtain ⟨v0, vs0, d0, ds0, p0, q0, hargs, rfl, rfl, h0, r0⟩ := trodAll_cons hA
  obtain ⟨rfl, rfl, rfl⟩ := trodAll_nil r0
  obtain rfl : args = #[v0] := by cases args; simp_all
  obtain ⟨rfl, rfl⟩ := trodVars_none hV
  obtain ⟨a0, rfl, rfl, rfl, w0⟩ := open_int Try.underlying3 (hval 0 3 v0 rfl rfl) h0
  clear hA0 hval0
  refine (walk a0 w0 W).mono fun e W' ⟨he, bel⟩ => ?_
  subst he
  exact ⟨_, rfl, _, _, _, [], _, [], hW', trodAll_mk1 (shut_bool Try.underlying4 _), (trodAll_cons_mk (shut_int Try.underlying3 w0) trodAll_mk0), rfl, bel.frame _, fun h => by cases h⟩

theorem over : Rows.ucdCountsRow.holds Try.pinned (OpenSpec.ofChange Rows.ucdCountsSpec) :=
  OpenClaim.holds_of_wide 4 Try.f4 rfl rfl rfl rfl rfl rfl rfl ⟨rfl, rfl, rfl, rfl, rfl⟩ rfl rfl rfl rfl rfl (by kernel_rfl) Try.func4 (by kernel_rfl)
    (of_decide_eq_true (by kernel_rfl)) (by unfold Func.isWrapper; first | (rw [if_pos (by decide +kernel)]; kernel_rfl) | (rw [if_neg (by decide +kernel)]; exact ⟨rfl, rfl⟩))
    (fun os started H enc _ => lifted os started H enc)

end Go.Proofs.Ytfbphacbnmimkaa.ucdCounts
namespace Go.Proofs.Ytfbphacbnmimkaa
theorem ucdCounts_holds : Rows.UcdCountsSaid := ucdCounts.over
#print axioms ucdCounts_holds
end Go.Proofs.Ytfbphacbnmimkaa
