/-
  For every rune r and every int kind the law UcdNext returns true, and both arguments read behind the call as they read before. No condition.
-/
import Derived.Test.YtfbphacbnmimkaaRows
import Derived.Test.YtfbphacbnmimkaaUcd22
import Derived.WalkKit
import Derived.ProofKit
import Derived.OpenShut
import Derived.ShutString
import Derived.ChangeOld
import Derived.Below
namespace Go.Proofs.Ytfbphacbnmimkaa.ucdNext
open Go.ChangeShapes Go.WideShapes Go.ChangeAt Go.RowKit
open Go.ChangeMaps (open_string shut_string)
set_option linter.unusedVariables false

theorem own : ownKnob Try.prog.godebug = none := by kernel_rfl

theorem book_lenM : bookL.length ≤ maxLen := Nat.le_trans book_le (by unfold maxLen; decide)
theorem rune_wf {a : Int} (h : (Lit.int .i32 a).wf = true) : -2147483648 ≤ a ∧ a ≤ 2147483647 := by
  simp only [Lit.wf, Bool.and_eq_true, decide_eq_true_eq] at h; exact h
theorem conv_no (v : Int) (h : v < 0) : conv v = (0, false) := if_pos h
theorem conv_yes (v : Int) (h : 0 ≤ v) : conv v = (v, true) := if_neg (by omega)

set_option maxHeartbeats 2000000 in
set_option maxRecDepth 100000 in
theorem walk (a0 : Int) (a1 : Int) (w0 : (Lit.int .i32 a0).wf = true) (w1 : (Lit.int .i64 a1).wf = true) (w : World) :
    Calls Try.prog 5 #[.int .i32 a0, .int .i64 a1] w fun e w' => e = .returned (.bool true) ∧ Below w.heap.size w w' := by
  obtain ⟨r0, r1⟩ := rune_wf w0
  have HA := hid book_awake
  have HN := hid (new_any w)
  have HX := hid (fun (w : World) (b : Nat) (p : Nat) (rv : Value) (h : Book w b bookL p rv) => next_any h book_lenM a0 a1)
  have HR := hid (fun w => rnext_any w a0 a1 r0 r1)
  have hE := book_next a0 a1
  have HO := hid (next_out a0 a1)
  have HZ := hid (next_kind_book a0 a1)
  have HZB := hid (next_kind_bd a0 a1)
  have HK := hid (fun (w : World) (b : Nat) (p : Nat) (rv : Value) (z : Int) (h : Book w b bookL p rv) => kind_any h z)
  generalize rnextP a1 (max a0 0) allT = v at *
  generalize hn : nextP a0 a1 bookL = t at *
  clear hn
  obtain ⟨t1, t2⟩ := t
  simp only at HX
  generalize bookL = L at *
  have h0 := Ok.start w
  clear w0 w1
  by_cases hl : a1 < 0 ∨ 11 < a1
  · have e := HO.out hl
    simp only [Prod.mk.injEq] at e
    obtain ⟨rfl, rfl⟩ := e
    clear hE HZ HZB HK
    rcases hl with hl | hl
    all_goals
      go_enter Try.func5, Try.ntmps5
      go_wp2_with fail
      refine HN.out.mono ?_
      rintro e w1 ⟨b, p, rv, rfl, hb1, hB1⟩
      have HB := hid hB1
      replace h0 := h0.step hb1
      clear hB1 hb1
      go_wp2_with (first | (go_at_call 18; refine (HX.out _ _ _ _ HB.out).mono ?_; rintro e w2 ⟨rfl, hb2⟩; replace h0 := h0.step hb2; replace HB := hid (HB.out.step hb2); clear hb2) | (go_at_call 8; refine (awake_any HB.out HA.out).mono ?_; rintro e w2 ⟨rfl, hb2⟩; replace h0 := h0.step hb2; clear hb2))
      go_ret
      exact ⟨rfl, h0.1⟩
  · have l0 : 0 ≤ a1 := by omega
    have l1 : a1 ≤ 11 := by omega
    clear hl HO
    by_cases hv : v < 0
    · rw [conv_no v hv] at hE
      simp only [Prod.mk.injEq] at hE
      obtain ⟨rfl, rfl⟩ := hE
      clear HZ HZB HK
      go_enter Try.func5, Try.ntmps5
      go_wp2_with fail
      refine HN.out.mono ?_
      rintro e w1 ⟨b, p, rv, rfl, hb1, hB1⟩
      have HB := hid hB1
      replace h0 := h0.step hb1
      clear hB1 hb1
      go_wp2_with (first | (go_at_call 18; refine (HX.out _ _ _ _ HB.out).mono ?_; rintro e w2 ⟨rfl, hb2⟩; replace h0 := h0.step hb2; replace HB := hid (HB.out.step hb2); clear hb2) | (go_at_call 19; refine (HR.out _).mono ?_; rintro e w2 ⟨rfl, hb2⟩; replace h0 := h0.step hb2; replace HB := hid (HB.out.step hb2); clear hb2) | (go_at_call 8; refine (awake_any HB.out HA.out).mono ?_; rintro e w2 ⟨rfl, hb2⟩; replace h0 := h0.step hb2; clear hb2))
      go_ret
      exact ⟨rfl, h0.1⟩
    · rw [conv_yes v (by omega)] at hE
      simp only [Prod.mk.injEq] at hE
      obtain ⟨rfl, rfl⟩ := hE
      have hk := HZ.out t1 rfl
      have ⟨z0, z1⟩ := HZB.out t1 rfl
      clear HZ HZB
      go_enter Try.func5, Try.ntmps5
      go_wp2_with fail
      refine HN.out.mono ?_
      rintro e w1 ⟨b, p, rv, rfl, hb1, hB1⟩
      have HB := hid hB1
      replace h0 := h0.step hb1
      clear hB1 hb1
      go_wp2_with (first | (go_at_call 18; refine (HX.out _ _ _ _ HB.out).mono ?_; rintro e w2 ⟨rfl, hb2⟩; replace h0 := h0.step hb2; replace HB := hid (HB.out.step hb2); clear hb2) | (go_at_call 19; refine (HR.out _).mono ?_; rintro e w2 ⟨rfl, hb2⟩; replace h0 := h0.step hb2; replace HB := hid (HB.out.step hb2); clear hb2) | (go_at_call 10; refine (HK.out _ _ _ _ _ HB.out).mono ?_; rintro e w2 ⟨rfl, hb2⟩; replace h0 := h0.step hb2; replace HB := hid (HB.out.step hb2); clear hb2) | (go_at_call 8; refine (awake_any HB.out HA.out).mono ?_; rintro e w2 ⟨rfl, hb2⟩; replace h0 := h0.step hb2; clear hb2))
      go_ret
      exact ⟨rfl, h0.1⟩

set_option maxRecDepth 100000 in
theorem lifted (os : Os) (started : os.Started) (H : Type) (enc : TypeId × Value → H) :
    ReturnsInHanded {} Try.checked os 5 .any (Rows.ucdNextSpec.pre6 enc Try.prog Try.f5 Rows.ucdNextRow.domain false) (Rows.ucdNextSpec.post enc Try.prog Try.f5 false true false false) := by
  refine returnsInHanded_of_change (C := Try.checked) own started (by kernel_rfl) Try.func5
    (ChangeSpec.witness6 (enc := enc) (C := Try.checked) false ⟨#[], #[.int .i32 0, .int .i64 0], []⟩ 8 (by kernel_rfl) (by kernel_rfl) (by kernel_rfl) (by kernel_rfl)) ?_
  intro W base args ds gs before hval0 hW hcnd _
  have hval : ∀ (j : Nat) t v, Try.f5.params[j]? = some t → args[j]? = some v → Value.okWide Try.prog W .any base t v := hval0
  have hW' := hW
  obtain ⟨p, q, hA0, hV, rfl, hfz, hnd⟩ := hW
  have hA : DataW.TrodAll enc Try.prog W 0 (fun _ => true) true Try.f5.params.toList args.toList ds p := hA0
  rw [Try.params5] at hA hval
  obtain ⟨v0, vs0, d0, ds0, p0, q0, hargs, rfl, rfl, h0, r0⟩ := trodAll_cons hA
  obtain ⟨v1, vs1, d1, ds1, p1, q1, rfl, rfl, rfl, h1, r1⟩ := trodAll_cons r0
  obtain ⟨rfl, rfl, rfl⟩ := trodAll_nil r1
  obtain rfl : args = #[v0, v1] := by cases args; simp_all
  obtain ⟨rfl, rfl⟩ := trodVars_none hV
  obtain ⟨a0, rfl, rfl, rfl, w0⟩ := open_int Try.underlying21 (hval 0 21 v0 rfl rfl) h0
  obtain ⟨a1, rfl, rfl, rfl, w1⟩ := open_int Try.underlying3 (hval 1 3 v1 rfl rfl) h1
  clear hA0 hval0
  refine (walk a0 a1 w0 w1 W).mono fun e W' ⟨he, bel⟩ => ?_
  subst he
  exact ⟨_, rfl, _, _, _, [], _, [], hW', trodAll_mk1 (shut_bool Try.underlying4 _), (trodAll_cons_mk (shut_int Try.underlying21 w0) (trodAll_cons_mk (shut_int Try.underlying3 w1) trodAll_mk0)), rfl, bel.frame _, fun h => by cases h⟩

theorem over : Rows.ucdNextRow.holds Try.pinned (OpenSpec.ofChange Rows.ucdNextSpec) :=
  OpenClaim.holds_of_wide 5 Try.f5 rfl rfl rfl rfl rfl rfl rfl ⟨rfl, rfl, rfl, rfl, rfl⟩ rfl rfl rfl rfl rfl (by kernel_rfl) Try.func5 (by kernel_rfl)
    (of_decide_eq_true (by kernel_rfl)) (by unfold Func.isWrapper; first | (rw [if_pos (by decide +kernel)]; kernel_rfl) | (rw [if_neg (by decide +kernel)]; exact ⟨rfl, rfl⟩))
    (fun os started H enc _ => lifted os started H enc)

end Go.Proofs.Ytfbphacbnmimkaa.ucdNext
namespace Go.Proofs.Ytfbphacbnmimkaa
theorem ucdNext_holds : Rows.UcdNextSaid := ucdNext.over
#print axioms ucdNext_holds
end Go.Proofs.Ytfbphacbnmimkaa
