/-
  For every byte b the law EscapeOctets returns true, and the argument reads behind the call as it read before. No condition.
-/
import Derived.Test.YthdchapieninbaaRows
import Derived.Test.YthdchapieninbaaEsc15
import Derived.WalkKit
import Derived.ProofKit
import Derived.OpenShut
import Derived.ShutString
import Derived.ChangeOld
import Derived.Below
namespace Go.Proofs.Ythdchapieninbaa.escapeOctets
open Go.ChangeShapes Go.WideShapes Go.ChangeAt Go.RowKit
open Go.ChangeMaps (open_string shut_string)
set_option linter.unusedVariables false

theorem own : ownKnob Try.prog.godebug = none := by kernel_rfl

theorem octet_wf {a : Int} (h : (Lit.int .u8 a).wf = true) : ∃ c : UInt8, a = (c.toNat : Int) := by
  simp only [Lit.wf, Bool.and_eq_true, decide_eq_true_eq] at h
  have h0 : 0 ≤ a := h.1
  have h1 : a ≤ 255 := h.2
  obtain ⟨k, rfl⟩ := Int.eq_ofNat_of_zero_le h0
  refine ⟨UInt8.ofNat k, ?_⟩
  have : (UInt8.ofNat k).toNat = k % 256 := UInt8.toNat_ofNat'
  omega

set_option maxHeartbeats 1000000 in
theorem walk (a0 : Int) (w0 : (Lit.int .u8 a0).wf = true) (w : World) :
    Calls Try.prog 6 #[.int .u8 a0] w fun e w' => e = .returned (.bool true) ∧ Below w.heap.size w w' := by
  obtain ⟨c, rfl⟩ := octet_wf w0
  have hok := Ok.start w
  obtain ⟨o1, o2, _⟩ := oct_is c
  have l1 : (lowS ⟨(ofU c).toArray⟩).data.toList = (ofU c).map lowU := rfl
  have l0 : (ByteArray.mk (ofU c).toArray).data.toList = ofU c := rfl
  have a1 := fun w => at_yes ⟨(ofU c).toArray⟩ 0 w (by show 3 ≤ maxLen; decide) (by rw [List.drop_zero, l0, o1]; omega)
  rw [List.drop_zero, l0, o1] at a1
  have a2 := fun w => at_yes (lowS ⟨(ofU c).toArray⟩) 0 w (by rw [sz_list, l1, List.length_map]; show 3 ≤ maxLen; decide) (by rw [List.drop_zero, l1, o2]; omega)
  rw [List.drop_zero, l1, o2] at a2
  have HL := hid (fun w => lower_any ⟨(ofU c).toArray⟩ w (by show 3 ≤ maxLen; decide))
  have HO := hid (fun w => of_any c w)
  have HR := hid (fun w => rof_bel c w)
  have A1 := hid a1
  have A2 := hid a2
  clear a1 a2 o1 o2 l1 l0
  generalize lowS ⟨(ofU c).toArray⟩ = t at *
  generalize (⟨(ofU c).toArray⟩ : ByteArray) = s at *
  go_enter Try.func6, Try.ntmps6
  go_wp2_with fail
  refine (HO.out _).mono ?_
  rintro e w1 ⟨rfl, hb'⟩
  replace hok := hok.step hb'
  clear hb'
  go_wp2_with fail
  refine (A1.out _).mono ?_
  rintro e w2 ⟨rfl, rfl⟩
  go_wp2_with fail
  refine (HL.out _).mono ?_
  rintro e w3 ⟨rfl, hb'⟩
  replace hok := hok.step hb'
  clear hb'
  go_wp2_with fail
  refine (A2.out _).mono ?_
  rintro e w4 ⟨rfl, rfl⟩
  go_wp2_with (first | (go_at_call 19; refine (HR.out _).mono ?_; rintro e w' ⟨rfl, hb'⟩; replace hok := hok.step hb'; clear hb') | (go_at_call 7; refine (awake_any _).mono ?_; rintro e w' ⟨rfl, hb'⟩; replace hok := hok.step hb'; clear hb'))
  go_ret
  exact ⟨rfl, hok.1⟩

set_option maxRecDepth 100000 in
theorem lifted (os : Os) (started : os.Started) (H : Type) (enc : TypeId × Value → H) :
    ReturnsInHanded {} Try.checked os 6 .any (Rows.escapeOctetsSpec.pre6 enc Try.prog Try.f6 Rows.escapeOctetsRow.domain false) (Rows.escapeOctetsSpec.post enc Try.prog Try.f6 false true false false) := by
  refine returnsInHanded_of_change (C := Try.checked) own started (by kernel_rfl) Try.func6
    (ChangeSpec.witness6 (enc := enc) (C := Try.checked) false ⟨#[], #[.int .u8 0], []⟩ 8 (by kernel_rfl) (by kernel_rfl) (by kernel_rfl) (by kernel_rfl)) ?_
  intro W base args ds gs before hval0 hW hcnd _
  have hval : ∀ (j : Nat) t v, Try.f6.params[j]? = some t → args[j]? = some v → Value.okWide Try.prog W .any base t v := hval0
  have hW' := hW
  obtain ⟨p, q, hA0, hV, rfl, hfz, hnd⟩ := hW
  have hA : DataW.TrodAll enc Try.prog W 0 (fun _ => true) true Try.f6.params.toList args.toList ds p := hA0
  rw [Try.params6] at hA hval
  obtain ⟨v0, vs0, d0, ds0, p0, q0, hargs, rfl, rfl, h0, r0⟩ := trodAll_cons hA
  obtain ⟨rfl, rfl, rfl⟩ := trodAll_nil r0
  obtain rfl : args = #[v0] := by cases args; simp_all
  obtain ⟨rfl, rfl⟩ := trodVars_none hV
  obtain ⟨a0, rfl, rfl, rfl, w0⟩ := open_int Try.underlying5 (hval 0 5 v0 rfl rfl) h0
  clear hA0 hval0
  refine (walk a0 w0 W).mono fun e W' ⟨he, bel⟩ => ?_
  subst he
  exact ⟨_, rfl, _, _, _, [], _, [], hW', trodAll_mk1 (shut_bool Try.underlying4 _), (trodAll_cons_mk (shut_int Try.underlying5 w0) trodAll_mk0), rfl, bel.frame _, fun h => by cases h⟩

theorem over : Rows.escapeOctetsRow.holds Try.pinned (OpenSpec.ofChange Rows.escapeOctetsSpec) :=
  OpenClaim.holds_of_wide 6 Try.f6 rfl rfl rfl rfl rfl rfl rfl ⟨rfl, rfl, rfl, rfl, rfl⟩ rfl rfl rfl rfl rfl (by kernel_rfl) Try.func6 (by kernel_rfl)
    (of_decide_eq_true (by kernel_rfl)) (by unfold Func.isWrapper; first | (rw [if_pos (by decide +kernel)]; kernel_rfl) | (rw [if_neg (by decide +kernel)]; exact ⟨rfl, rfl⟩))
    (fun os started H enc _ => lifted os started H enc)

end Go.Proofs.Ythdchapieninbaa.escapeOctets
namespace Go.Proofs.Ythdchapieninbaa
theorem escapeOctets_holds : Rows.EscapeOctetsSaid := escapeOctets.over
#print axioms escapeOctets_holds
end Go.Proofs.Ythdchapieninbaa
