/-
  For every two strings a and b the law UtfJoins returns true, and both read behind the call as they read before. No condition.
-/
import Derived.Test.YtamohliclidpgabRows
import Derived.Test.YtamohliclidpgabUtf9
import Derived.WalkKit
import Derived.ProofKit
import Derived.OpenShut
import Derived.ShutString
import Derived.ChangeOld
import Derived.Below
namespace Go.Proofs.Ytamohliclidpgab.utfJoins
open Go.ChangeShapes Go.WideShapes Go.ChangeAt Go.RowKit
open Go.ChangeMaps (open_string shut_string)
set_option linter.unusedVariables false

theorem own : ownKnob Try.prog.godebug = none := by kernel_rfl

set_option maxHeartbeats 1000000 in
theorem walk (a0 : ByteArray) (a1 : ByteArray) (w0 : a0.size ≤ maxLen) (w1 : a1.size ≤ maxLen) (w : World) :
    Calls Try.prog 7 #[.string a0, .string a1] w fun e w' => e = .returned (.bool true) ∧ Below w.heap.size w w' := by
  have hok := Ok.start w
  by_cases h : 300 < a0.size
  · go_enter Try.func7, Try.ntmps7
    go_wp2_with (first | (go_at_call 8; refine (uawake_any _).mono ?_; rintro e w' ⟨rfl, hb'⟩; (first | replace hok := hok.step hb' | replace hok := hok.alloc.step hb' | replace hok := hok.alloc.alloc.step hb'); clear hb'))
    go_ret
    exact ⟨rfl, hok.1⟩
  by_cases h' : 300 < a1.size
  · go_enter Try.func7, Try.ntmps7
    go_wp2_with (first | (go_at_call 8; refine (uawake_any _).mono ?_; rintro e w' ⟨rfl, hb'⟩; (first | replace hok := hok.step hb' | replace hok := hok.alloc.step hb' | replace hok := hok.alloc.alloc.step hb'); clear hb'))
    go_ret
    exact ⟨rfl, hok.1⟩
  have m1 : Hid (a0.size ≤ maxLen) := w0
  have m2 : Hid (a1.size ≤ maxLen) := w1
  have hl : (a0 ++ a1).data.toList = a0.data.toList ++ a1.data.toList := by simp
  by_cases hf : faultL a0.data.toList < 0
  · obtain ⟨j1, j2⟩ := joins a0.data.toList a1.data.toList hf
    rw [len_size] at j1
    have c1 := countL_le a0.data.toList
    have c2 := countL_le a1.data.toList
    rw [len_size] at c1 c2
    have hF : Hid (∀ w, Calls Try.prog 11 #[.string (a0 ++ a1)] w fun e w' => e = .returned (.int .i64 (if 0 ≤ faultL a1.data.toList then faultL a1.data.toList + a0.size else faultL a1.data.toList)) ∧ Below w.heap.size w w') := fun w => by
      have := flt_any (a0 ++ a1) w
      rw [hl, j1] at this; exact this
    have hC : Hid (∀ w, Calls Try.prog 26 #[.string (a0 ++ a1)] w fun e w' => e = .returned (.int .i64 ((countL a0.data.toList : Int) + countL a1.data.toList)) ∧ Below w.heap.size w w') := fun w => by
      have := cnt_any (a0 ++ a1) w (by rw [← len_size, hl, List.length_append, len_size, len_size]; unfold maxLen; omega)
      rw [hl, j2] at this
      simpa using this
    have hlt := faultF_lt a1.data.toList a1.data.toList.length 0
    have hlt2 : faultL a1.data.toList < 301 := by unfold faultL; rw [len_size] at hlt ⊢; omega
    clear j1 j2 hl hlt
    by_cases hg : 0 ≤ faultL a1.data.toList
    · rw [if_pos hg] at hF
      go_enter Try.func7, Try.ntmps7
      go_wp2_with (first | (go_at_call 8; refine (uawake_any _).mono ?_; rintro e w' ⟨rfl, hb'⟩; (first | replace hok := hok.step hb' | replace hok := hok.alloc.step hb' | replace hok := hok.alloc.alloc.step hb'); clear hb') | (go_at_call 12; refine (rflt_any _ _ (by first | exact m1.out | exact m2.out)).mono ?_; rintro e w' ⟨rfl, hb'⟩; (first | replace hok := hok.step hb' | replace hok := hok.alloc.step hb' | replace hok := hok.alloc.alloc.step hb'); clear hb') | (go_at_call 11; refine (hF.out _).mono ?_; rintro e w' ⟨rfl, hb'⟩; (first | replace hok := hok.step hb' | replace hok := hok.alloc.step hb' | replace hok := hok.alloc.alloc.step hb'); clear hb') | (go_at_call_of 26 (Value.string (a0 ++ a1)); refine (hC.out _).mono ?_; rintro e w' ⟨rfl, hb'⟩; replace hok := hok.step hb'; clear hb') | (go_at_call 26; refine (cnt_any _ _ (by first | exact m1.out | exact m2.out)).mono ?_; rintro e w' ⟨rfl, hb'⟩; (first | replace hok := hok.step hb' | replace hok := hok.alloc.step hb' | replace hok := hok.alloc.alloc.step hb'); clear hb'))
      go_ret
      exact ⟨rfl, hok.1⟩
    · rw [if_neg hg] at hF
      go_enter Try.func7, Try.ntmps7
      go_wp2_with (first | (go_at_call 8; refine (uawake_any _).mono ?_; rintro e w' ⟨rfl, hb'⟩; (first | replace hok := hok.step hb' | replace hok := hok.alloc.step hb' | replace hok := hok.alloc.alloc.step hb'); clear hb') | (go_at_call 12; refine (rflt_any _ _ (by first | exact m1.out | exact m2.out)).mono ?_; rintro e w' ⟨rfl, hb'⟩; (first | replace hok := hok.step hb' | replace hok := hok.alloc.step hb' | replace hok := hok.alloc.alloc.step hb'); clear hb') | (go_at_call 11; refine (hF.out _).mono ?_; rintro e w' ⟨rfl, hb'⟩; (first | replace hok := hok.step hb' | replace hok := hok.alloc.step hb' | replace hok := hok.alloc.alloc.step hb'); clear hb') | (go_at_call_of 26 (Value.string (a0 ++ a1)); refine (hC.out _).mono ?_; rintro e w' ⟨rfl, hb'⟩; replace hok := hok.step hb'; clear hb') | (go_at_call 26; refine (cnt_any _ _ (by first | exact m1.out | exact m2.out)).mono ?_; rintro e w' ⟨rfl, hb'⟩; (first | replace hok := hok.step hb' | replace hok := hok.alloc.step hb' | replace hok := hok.alloc.alloc.step hb'); clear hb'))
      go_ret
      exact ⟨rfl, hok.1⟩
  · clear hl
    go_enter Try.func7, Try.ntmps7
    go_wp2_with (first | (go_at_call 8; refine (uawake_any _).mono ?_; rintro e w' ⟨rfl, hb'⟩; (first | replace hok := hok.step hb' | replace hok := hok.alloc.step hb' | replace hok := hok.alloc.alloc.step hb'); clear hb') | (go_at_call 12; refine (rflt_any _ _ m1.out).mono ?_; rintro e w' ⟨rfl, hb'⟩; (first | replace hok := hok.step hb' | replace hok := hok.alloc.step hb' | replace hok := hok.alloc.alloc.step hb'); clear hb'))
    go_ret
    exact ⟨rfl, hok.1⟩

set_option maxRecDepth 100000 in
theorem lifted (os : Os) (started : os.Started) (H : Type) (enc : TypeId × Value → H) :
    ReturnsInHanded {} Try.checked os 7 .any (Rows.utfJoinsSpec.pre6 enc Try.prog Try.f7 Rows.utfJoinsRow.domain false) (Rows.utfJoinsSpec.post enc Try.prog Try.f7 false true false false) := by
  refine returnsInHanded_of_change (C := Try.checked) own started (by kernel_rfl) Try.func7
    (ChangeSpec.witness6 (enc := enc) (C := Try.checked) false ⟨#[], #[.string ByteArray.empty, .string ByteArray.empty], []⟩ 8 (by kernel_rfl) (by kernel_rfl) (by kernel_rfl) (by kernel_rfl)) ?_
  intro W base args ds gs before hval0 hW hcnd _
  have hval : ∀ (j : Nat) t v, Try.f7.params[j]? = some t → args[j]? = some v → Value.okWide Try.prog W .any base t v := hval0
  have hW' := hW
  obtain ⟨p, q, hA0, hV, rfl, hfz, hnd⟩ := hW
  have hA : DataW.TrodAll enc Try.prog W 0 (fun _ => true) true Try.f7.params.toList args.toList ds p := hA0
  rw [Try.params7] at hA hval
  obtain ⟨v0, vs0, d0, ds0, p0, q0, hargs, rfl, rfl, h0, r0⟩ := trodAll_cons hA
  obtain ⟨v1, vs1, d1, ds1, p1, q1, rfl, rfl, rfl, h1, r1⟩ := trodAll_cons r0
  obtain ⟨rfl, rfl, rfl⟩ := trodAll_nil r1
  obtain rfl : args = #[v0, v1] := by cases args; simp_all
  obtain ⟨rfl, rfl⟩ := trodVars_none hV
  obtain ⟨a0, rfl, rfl, rfl, w0⟩ := open_string Try.underlying9 (hval 0 9 v0 rfl rfl) h0
  obtain ⟨a1, rfl, rfl, rfl, w1⟩ := open_string Try.underlying9 (hval 1 9 v1 rfl rfl) h1
  clear hA0 hval0
  refine (walk a0 a1 w0 w1 W).mono fun e W' ⟨he, bel⟩ => ?_
  subst he
  exact ⟨_, rfl, _, _, _, [], _, [], hW', trodAll_mk1 (shut_bool Try.underlying4 _), (trodAll_cons_mk (shut_string Try.underlying9 w0) (trodAll_cons_mk (shut_string Try.underlying9 w1) trodAll_mk0)), rfl, bel.frame _, fun h => by cases h⟩

theorem over : Rows.utfJoinsRow.holds Try.pinned (OpenSpec.ofChange Rows.utfJoinsSpec) :=
  OpenClaim.holds_of_wide 7 Try.f7 rfl rfl rfl rfl rfl rfl rfl ⟨rfl, rfl, rfl, rfl, rfl⟩ rfl rfl rfl rfl rfl (by kernel_rfl) Try.func7 (by kernel_rfl)
    (of_decide_eq_true (by kernel_rfl)) (by unfold Func.isWrapper; first | (rw [if_pos (by decide +kernel)]; kernel_rfl) | (rw [if_neg (by decide +kernel)]; exact ⟨rfl, rfl⟩))
    (fun os started H enc _ => lifted os started H enc)

end Go.Proofs.Ytamohliclidpgab.utfJoins
namespace Go.Proofs.Ytamohliclidpgab
theorem utfJoins_holds : Rows.UtfJoinsSaid := utfJoins.over
#print axioms utfJoins_holds
end Go.Proofs.Ytamohliclidpgab
