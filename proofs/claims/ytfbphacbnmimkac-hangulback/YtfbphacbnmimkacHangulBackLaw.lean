/-
  For every uint16 n the law HangulBack returns true, and n reads behind the call as it read before. No condition.
-/
import Derived.Test.YtfbphacbnmimkacRows
import Derived.Test.YtfbphacbnmimkacHan2
import Derived.WalkKit
import Derived.ProofKit
import Derived.OpenShut
import Derived.ShutString
import Derived.ChangeOld
import Derived.Below
namespace Go.Proofs.Ytfbphacbnmimkac.hangulBack
open Go.ChangeShapes Go.WideShapes Go.ChangeAt Go.RowKit
open Go.ChangeMaps (open_string shut_string)
set_option linter.unusedVariables false

theorem own : ownKnob Try.prog.godebug = none := by kernel_rfl

theorem u16_wf {a : Int} (h : (Lit.int .u16 a).wf = true) : 0 ≤ a ∧ a ≤ 65535 := by
  simp only [Lit.wf, Bool.and_eq_true, decide_eq_true_eq] at h; exact h

/-- The syllable without its tail. -/
def bareI (r : Int) : Int := lvI (ledI r) (vowI r)

theorem bare_facts (r : Int) (h1 : 44032 ≤ r) (h2 : r ≤ 55203) : bareI r = r - (r - 44032) % 28 := by
  unfold bareI lvI ledI vowI; omega

theorem bare_lv (r : Int) (h1 : 44032 ≤ r) (h2 : r ≤ 55203) : lvB (ledI r) (vowI r) = true := by
  have := led_bd r ⟨h1, h2⟩
  have := vow_bd r
  unfold lvB witB
  rw [decide_eq_true (by omega), decide_eq_true (by omega)]; rfl

theorem bare_open (r : Int) (h1 : 44032 ≤ r) (h2 : r ≤ 55203) : opnB (bareI r) = true := by
  have e := bare_facts r h1 h2
  unfold opnB sylB
  rw [decide_eq_true (by omega), decide_eq_true (by omega)]; rfl

theorem bare_ot (r : Int) (h1 : 44032 ≤ r) (h2 : r ≤ 55203) (ht : talI r ≠ 0) : otB (bareI r) (talI r) = true ∧ otI (bareI r) (talI r) = r ∧ opnB r = false := by
  have e := bare_facts r h1 h2
  have ho := bare_open r h1 h2
  unfold talI at ht ⊢
  split at ht
  · rename_i hm
    rw [if_pos hm]
    refine ⟨?_, ?_, ?_⟩
    · unfold otB witB
      rw [ho, decide_eq_true (by omega)]; rfl
    · unfold otI; omega
    · unfold opnB
      rw [decide_eq_false (by omega), Bool.and_false]
  · exact absurd rfl ht

theorem bare_same (r : Int) (h1 : 44032 ≤ r) (h2 : r ≤ 55203) (ht : talI r = 0) : bareI r = r := by
  have e := bare_facts r h1 h2
  unfold talI at ht
  split at ht <;> omega

/-- What two make, and whether they make one. -/
def jI (a b : Int) : Int := if lvB a b = true then lvI a b else if otB a b = true then otI a b else 0
def jB (a b : Int) : Bool := lvB a b || otB a b
theorem join_any (a b : Int) (w : World) : Calls Try.prog 13 #[.int .i32 a, .int .i32 b] w fun e w' => e = .returned (.tuple #[.int .i32 (jI a b), .bool (jB a b)]) ∧ w' = w := by
  cases hl : lvB a b
  · cases ho : otB a b
    · have e1 : jI a b = 0 := by unfold jI; rw [hl, ho]; rfl
      have e2 : jB a b = false := by unfold jB; rw [hl, ho]; rfl
      rw [e1, e2]; exact join_no a b w hl ho
    · have e1 : jI a b = otI a b := by unfold jI; rw [hl, ho]; rfl
      have e2 : jB a b = true := by unfold jB; rw [hl, ho]; rfl
      rw [e1, e2]; exact join_ot a b w ho
  · have e1 : jI a b = lvI a b := by unfold jI; rw [hl]; rfl
    have e2 : jB a b = true := by unfold jB; rw [hl]; rfl
    rw [e1, e2]; exact join_lv a b w hl
theorem bare_nlv (r : Int) (h1 : 44032 ≤ r) (h2 : r ≤ 55203) (b : Int) : lvB (bareI r) b = false := by
  have e := bare_facts r h1 h2
  unfold lvB witB
  rw [decide_eq_false (by omega), Bool.false_and]

set_option maxHeartbeats 1000000 in
theorem walk (a0 : Int) (w0 : (Lit.int .u16 a0).wf = true) (w : World) :
    Calls Try.prog 5 #[.int .u16 a0] w fun e w' => e = .returned (.bool true) ∧ Below w.heap.size w w' := by
  obtain ⟨r1, r2⟩ := u16_wf w0
  have m1 : 0 ≤ a0 % 11172 := by omega
  have m2 : a0 % 11172 < 11172 := by omega
  have hA := hid (fun w => at_yes (a0 % 11172) w m1 m2)
  obtain ⟨r, hr⟩ : ∃ r, 44032 + a0 % 11172 = r := ⟨_, rfl⟩
  rw [hr] at hA
  have s1 : 44032 ≤ r := by omega
  have s2 : r ≤ 55203 := by omega
  clear hr w0
  have hl := bare_lv r s1 s2
  have ho := bare_open r s1 s2
  have j1 : jI (ledI r) (vowI r) = bareI r := by unfold jI; rw [hl]; rfl
  have j2 : jB (ledI r) (vowI r) = true := by unfold jB; rw [hl]; rfl
  have hS := hid (fun w => split_yes r w s1 s2)
  have hn := bare_nlv r s1 s2
  clear hl
  by_cases ht : talI r = 0
  · have hb := bare_same r s1 s2 ht
    rw [hb] at j1 ho
    clear hb hn
    generalize ledI r = L at *
    generalize vowI r = V at *
    generalize talI r = T at *
    go_enter Try.func5, Try.ntmps5
    go_wp2_with (first | (go_at_call 11; refine (hA.out _).mono ?_; rintro e w' ⟨rfl, rfl⟩) | (go_at_call 6; refine (hS.out _).mono ?_; rintro e w' ⟨rfl, rfl⟩) | (go_at_call 13; refine (join_any _ _ _).mono ?_; rintro e w' ⟨rfl, rfl⟩) | (go_at_call 9; refine (opn_any _ _).mono ?_; rintro e w' ⟨rfl, rfl⟩) | (go_at_call 12; refine (hawake_any _).mono ?_; rintro e w' ⟨rfl, rfl⟩))
    go_ret
    exact ⟨rfl, Below.refl _ _⟩
  · obtain ⟨h1, h2, h3⟩ := bare_ot r s1 s2 ht
    have j3 : jI (bareI r) (talI r) = r := by unfold jI; rw [hn, h1]; exact h2
    have j4 : jB (bareI r) (talI r) = true := by unfold jB; rw [hn, h1]; rfl
    clear h1 h2 hn
    generalize bareI r = B at *
    generalize ledI r = L at *
    generalize vowI r = V at *
    generalize talI r = T at *
    go_enter Try.func5, Try.ntmps5
    go_wp2_with (first | (go_at_call 11; refine (hA.out _).mono ?_; rintro e w' ⟨rfl, rfl⟩) | (go_at_call 6; refine (hS.out _).mono ?_; rintro e w' ⟨rfl, rfl⟩) | (go_at_call 13; refine (join_any _ _ _).mono ?_; rintro e w' ⟨rfl, rfl⟩) | (go_at_call 9; refine (opn_any _ _).mono ?_; rintro e w' ⟨rfl, rfl⟩) | (go_at_call 12; refine (hawake_any _).mono ?_; rintro e w' ⟨rfl, rfl⟩))
    go_ret
    exact ⟨rfl, Below.refl _ _⟩

set_option maxRecDepth 100000 in
theorem lifted (os : Os) (started : os.Started) (H : Type) (enc : TypeId × Value → H) :
    ReturnsInHanded {} Try.checked os 5 .any (Rows.hangulBackSpec.pre6 enc Try.prog Try.f5 Rows.hangulBackRow.domain false) (Rows.hangulBackSpec.post enc Try.prog Try.f5 false true false false) := by
  refine returnsInHanded_of_change (C := Try.checked) own started (by kernel_rfl) Try.func5
    (ChangeSpec.witness6 (enc := enc) (C := Try.checked) false ⟨#[], #[.int .u16 0], []⟩ 8 (by kernel_rfl) (by kernel_rfl) (by kernel_rfl) (by kernel_rfl)) ?_
  intro W base args ds gs before hval0 hW hcnd _
  have hval : ∀ (j : Nat) t v, Try.f5.params[j]? = some t → args[j]? = some v → Value.okWide Try.prog W .any base t v := hval0
  have hW' := hW
  obtain ⟨p, q, hA0, hV, rfl, hfz, hnd⟩ := hW
  have hA : DataW.TrodAll enc Try.prog W 0 (fun _ => true) true Try.f5.params.toList args.toList ds p := hA0
  rw [Try.params5] at hA hval
  obtain ⟨v0, vs0, d0, ds0, p0, q0, hargs, rfl, rfl, h0, r0⟩ := trodAll_cons hA
  obtain ⟨rfl, rfl, rfl⟩ := trodAll_nil r0
  obtain rfl : args = #[v0] := by cases args; simp_all
  obtain ⟨rfl, rfl⟩ := trodVars_none hV
  obtain ⟨a0, rfl, rfl, rfl, w0⟩ := open_int Try.underlying36 (hval 0 36 v0 rfl rfl) h0
  clear hA0 hval0
  refine (walk a0 w0 W).mono fun e W' ⟨he, bel⟩ => ?_
  subst he
  exact ⟨_, rfl, _, _, _, [], _, [], hW', trodAll_mk1 (shut_bool Try.underlying4 _), (trodAll_cons_mk (shut_int Try.underlying36 w0) trodAll_mk0), rfl, bel.frame _, fun h => by cases h⟩

theorem over : Rows.hangulBackRow.holds Try.pinned (OpenSpec.ofChange Rows.hangulBackSpec) :=
  OpenClaim.holds_of_wide 5 Try.f5 rfl rfl rfl rfl rfl rfl rfl ⟨rfl, rfl, rfl, rfl, rfl⟩ rfl rfl rfl rfl rfl (by kernel_rfl) Try.func5 (by kernel_rfl)
    (of_decide_eq_true (by kernel_rfl)) (by unfold Func.isWrapper; first | (rw [if_pos (by decide +kernel)]; kernel_rfl) | (rw [if_neg (by decide +kernel)]; exact ⟨rfl, rfl⟩))
    (fun os started H enc _ => lifted os started H enc)

end Go.Proofs.Ytfbphacbnmimkac.hangulBack
namespace Go.Proofs.Ytfbphacbnmimkac
theorem hangulBack_holds : Rows.HangulBackSaid := hangulBack.over
#print axioms hangulBack_holds
end Go.Proofs.Ytfbphacbnmimkac
