/-
  For all runes r, a and b the law PairBack returns true, and the three read behind the call as they read before. No condition.
-/
import Derived.Test.YtfbphacbnmimkabRows
import Derived.Test.YtfbphacbnmimkabPr13
import Derived.WalkKit
import Derived.ProofKit
import Derived.OpenShut
import Derived.ShutString
import Derived.ChangeOld
import Derived.Below
namespace Go.Proofs.Ytfbphacbnmimkab.pairBack
open Go.ChangeShapes Go.WideShapes Go.ChangeAt Go.RowKit
open Go.ChangeMaps (open_string shut_string)
set_option linter.unusedVariables false

theorem own : ownKnob Try.prog.godebug = none := by kernel_rfl

theorem rune_wf {a : Int} (h : (Lit.int .i32 a).wf = true) : I32 a := by
  simp only [Lit.wf, Bool.and_eq_true, decide_eq_true_eq] at h; exact h

set_option maxHeartbeats 4000000 in
set_option maxRecDepth 100000 in
theorem walk (a0 : Int) (a1 : Int) (a2 : Int) (w0 : (Lit.int .i32 a0).wf = true) (w1 : (Lit.int .i32 a1).wf = true) (w2 : (Lit.int .i32 a2).wf = true) (w : World) :
    Calls Try.prog 5 #[.int .i32 a0, .int .i32 a1, .int .i32 a2] w fun e w' => e = .returned (.bool true) ∧ Below w.heap.size w w' := by
  have hr := rune_wf w0
  have ha := rune_wf w1
  have hb := rune_wf w2
  clear w0 w1 w2
  have HN := hid (new_any w)
  have HAw := hid (fun (w : World) (p d u s : Nat) (h : PW w p d u s allP 395) => awake_any h)
  have HX := hid (fun (w : World) (p d u s : Nat) (h : PW w p d u s allP 395) (r : Int) (hr : I32 r) => ex_g h hr)
  have HD := hid (fun (w : World) (p d u s : Nat) (h : PW w p d u s allP 395) (r : Int) (hr : I32 r) => down_g h hr)
  have HU := hid (fun (w : World) (p d u s : Nat) (h : PW w p d u s allP 395) (a b : Int) (ha : I32 a) (hb : I32 b) => up_g h ha hb)
  have hdb := d_bd a0
  have HI := hid (And.intro hr (And.intro ha (And.intro hb (And.intro hdb.1 (And.intro hdb.2.1 (u_bd a1 a2))))))
  have hb1 := bk1 a0
  have hb2 := bk2 a1 a2
  have hok := Ok.start w
  clear hr ha hb hdb
  generalize allP = L at *
  have HC1 : d3 a0 ≠ 2 ∨ (d3 a0 = 2 ∧ exq a0 = true) ∨ (d3 a0 = 2 ∧ exq a0 = false ∧ u1 (d1 a0) (d2 a0) = a0 ∧ u2 (d1 a0) (d2 a0) = true) := by
    by_cases h3 : d3 a0 = 2
    · cases he : exq a0 with
      | true => exact .inr (.inl ⟨h3, rfl⟩)
      | false => exact .inr (.inr ⟨h3, rfl, hb1 h3 he⟩)
    · exact .inl h3
  have HC2 : u2 a1 a2 = false ∨ (u2 a1 a2 = true ∧ d3 (u1 a1 a2) = 2 ∧ d1 (u1 a1 a2) = a1 ∧ d2 (u1 a1 a2) = a2 ∧ exq (u1 a1 a2) = false) := by
    cases hu : u2 a1 a2 with
    | false => exact .inl rfl
    | true => exact .inr ⟨rfl, hb2 hu⟩
  clear hb1 hb2
  generalize hx1 : d1 a0 = x1 at *
  generalize hx2 : d2 a0 = x2 at *
  generalize hx3 : d3 a0 = x3 at *
  rcases HC1 with c1 | ⟨c1, c2⟩ | ⟨c1, c2, c3, c4⟩ <;> rcases HC2 with f1 | ⟨f1, f2, f3, f4, f5⟩
  all_goals
    go_enter Try.func5, Try.ntmps5
    go_wp2_with fail
    refine HN.out.mono ?_
    rintro e w1 ⟨p, d, u, s, rfl, hP1, hb1⟩
    have HP := hid hP1
    replace hok := hok.step hb1
    clear hP1 hb1 HN
    go_wp2_with (first | (go_at_call 10; refine (HD.out _ _ _ _ _ HP.out _ (by first | exact HI.out.1 | exact HI.out.2.2.2.2.2)).mono ?_; rintro e w2 ⟨rfl, hb2⟩; replace hok := hok.step hb2; replace HP := hid (HP.out.step hb2); clear hb2) | (go_at_call 17; refine (HU.out _ _ _ _ _ HP.out _ _ (by first | exact HI.out.2.1 | exact HI.out.2.2.2.1) (by first | exact HI.out.2.2.1 | exact HI.out.2.2.2.2.1)).mono ?_; rintro e w2 ⟨rfl, rfl⟩) | (go_at_call 12; refine (HX.out _ _ _ _ _ HP.out _ (by first | exact HI.out.1 | exact HI.out.2.2.2.2.2)).mono ?_; rintro e w2 ⟨rfl, rfl⟩) | (go_at_call 8; refine (HAw.out _ _ _ _ _ HP.out).mono ?_; rintro e w2 ⟨rfl, hb2⟩; replace hok := hok.step hb2; clear hb2))
    go_ret
    exact ⟨rfl, hok.1⟩

set_option maxRecDepth 100000 in
theorem lifted (os : Os) (started : os.Started) (H : Type) (enc : TypeId × Value → H) :
    ReturnsInHanded {} Try.checked os 5 .any (Rows.pairBackSpec.pre6 enc Try.prog Try.f5 Rows.pairBackRow.domain false) (Rows.pairBackSpec.post enc Try.prog Try.f5 false true false false) := by
  refine returnsInHanded_of_change (C := Try.checked) own started (by kernel_rfl) Try.func5
    (ChangeSpec.witness6 (enc := enc) (C := Try.checked) false ⟨#[], #[.int .i32 0, .int .i32 0, .int .i32 0], []⟩ 8 (by kernel_rfl) (by kernel_rfl) (by kernel_rfl) (by kernel_rfl)) ?_
  intro W base args ds gs before hval0 hW hcnd _
  have hval : ∀ (j : Nat) t v, Try.f5.params[j]? = some t → args[j]? = some v → Value.okWide Try.prog W .any base t v := hval0
  have hW' := hW
  obtain ⟨p, q, hA0, hV, rfl, hfz, hnd⟩ := hW
  have hA : DataW.TrodAll enc Try.prog W 0 (fun _ => true) true Try.f5.params.toList args.toList ds p := hA0
  rw [Try.params5] at hA hval
  obtain ⟨v0, vs0, d0, ds0, p0, q0, hargs, rfl, rfl, h0, r0⟩ := trodAll_cons hA
  obtain ⟨v1, vs1, d1, ds1, p1, q1, rfl, rfl, rfl, h1, r1⟩ := trodAll_cons r0
  obtain ⟨v2, vs2, d2, ds2, p2, q2, rfl, rfl, rfl, h2, r2⟩ := trodAll_cons r1
  obtain ⟨rfl, rfl, rfl⟩ := trodAll_nil r2
  obtain rfl : args = #[v0, v1, v2] := by cases args; simp_all
  obtain ⟨rfl, rfl⟩ := trodVars_none hV
  obtain ⟨a0, rfl, rfl, rfl, w0⟩ := open_int Try.underlying21 (hval 0 21 v0 rfl rfl) h0
  obtain ⟨a1, rfl, rfl, rfl, w1⟩ := open_int Try.underlying21 (hval 1 21 v1 rfl rfl) h1
  obtain ⟨a2, rfl, rfl, rfl, w2⟩ := open_int Try.underlying21 (hval 2 21 v2 rfl rfl) h2
  clear hA0 hval0
  refine (walk a0 a1 a2 w0 w1 w2 W).mono fun e W' ⟨he, bel⟩ => ?_
  subst he
  exact ⟨_, rfl, _, _, _, [], _, [], hW', trodAll_mk1 (shut_bool Try.underlying4 _), (trodAll_cons_mk (shut_int Try.underlying21 w0) (trodAll_cons_mk (shut_int Try.underlying21 w1) (trodAll_cons_mk (shut_int Try.underlying21 w2) trodAll_mk0))), rfl, bel.frame _, fun h => by cases h⟩

theorem over : Rows.pairBackRow.holds Try.pinned (OpenSpec.ofChange Rows.pairBackSpec) :=
  OpenClaim.holds_of_wide 5 Try.f5 rfl rfl rfl rfl rfl rfl rfl ⟨rfl, rfl, rfl, rfl, rfl⟩ rfl rfl rfl rfl rfl (by kernel_rfl) Try.func5 (by kernel_rfl)
    (of_decide_eq_true (by kernel_rfl)) (by unfold Func.isWrapper; first | (rw [if_pos (by decide +kernel)]; kernel_rfl) | (rw [if_neg (by decide +kernel)]; exact ⟨rfl, rfl⟩))
    (fun os started H enc _ => lifted os started H enc)

end Go.Proofs.Ytfbphacbnmimkab.pairBack
namespace Go.Proofs.Ytfbphacbnmimkab
theorem pairBack_holds : Rows.PairBackSaid := pairBack.over
#print axioms pairBack_holds
end Go.Proofs.Ytfbphacbnmimkab
