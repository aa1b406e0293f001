/-
  For every two runes ahead and behind and every two bytes before and after the law RuleMarks returns true. No condition.
-/
import Derived.Test.YtbamhbfncddieaaRows
import Derived.Test.YtbamhbfncddieaaRul6
import Derived.WalkKit
import Derived.ProofKit
import Derived.OpenShut
import Derived.ShutString
import Derived.ChangeOld
import Derived.Below
namespace Go.Proofs.Ytbamhbfncddieaa.ruleMarks
open Go.ChangeShapes Go.WideShapes Go.ChangeAt Go.RowKit
open Go.ChangeMaps (open_string shut_string)
set_option linter.unusedVariables false

theorem own : ownKnob Try.prog.godebug = none := by kernel_rfl

open Od Ru in
theorem mk_c : (clsP 1614 == 9) = false := by kernel_rfl
open Od Ru in
theorem mk_1 : jnP 1614 = 4 := by kernel_rfl
open Od Ru in
theorem mk_2 : jnP 1617 = 4 := by kernel_rfl
open Od Ru in
theorem asF_skip (q : Int → Bool) (x : Int) (hx : jnP x = 4) (l : List Int) : ∀ m : Nat, asF (fun x => decide (jnP x ∈ [4])) q (List.replicate m x ++ l) = asF (fun x => decide (jnP x ∈ [4])) q l
  | 0 => rfl
  | m + 1 => by
    rw [List.replicate_succ, List.cons_append, asF, if_pos (by simp [hx]), asF_skip q x hx l m]
open Od Ru in
/-- The label of the law. -/
def lab (a b : Int) (m k : Nat) : List Int := (a :: List.replicate m 1614) ++ 8204 :: (List.replicate k 1617 ++ [b])
open Od Ru in
theorem lab_len (a b : Int) (m k : Nat) : (lab a b m k).length = m + k + 3 := by
  unfold lab
  simp
  omega
open Od Ru in
theorem lab_take (a b : Int) (m k : Nat) : ((lab a b m k).take (m + 1)).reverse = List.replicate m 1614 ++ [a] := by
  unfold lab
  rw [List.take_left' (by simp), List.reverse_cons, List.reverse_replicate]
open Od Ru in
theorem lab_drop (a b : Int) (m k : Nat) : (lab a b m k).drop (m + 1 + 1) = List.replicate k 1617 ++ [b] := by
  unfold lab
  rw [← List.drop_drop, List.drop_left' (by simp)]
  rfl
open Od Ru in
theorem lab_get (a b : Int) (m k : Nat) (h : m + 1 < (lab a b m k).length) : (lab a b m k)[m + 1] = 8204 := by
  have e : (lab a b m k)[m + 1]? = some 8204 := by
    unfold lab
    rw [List.getElem?_append_right (by simp)]
    simp
  rw [List.getElem?_eq_getElem h] at e
  exact Option.some.inj e
open Od Ru in
theorem lab_met (a b : Int) (ha : clsP a ≠ 9) (m k : Nat) : metR 8204 (lab a b m k) (m + 1) = metR 8204 [a, 8204, b] 1 := by
  have hc : (clsP a == 9) = false := beq_eq_false_iff_ne.2 ha
  have hj : joB (lab a b m k) (m + 1) = joB [a, 8204, b] 1 := by
    unfold joB
    rw [lab_take, lab_drop, asF_skip _ 1614 mk_1, asF_skip _ 1617 mk_2]
    rfl
  have hh : hdB (fun x => clsP x == 9) ((lab a b m k).take (m + 1)).reverse = false := by
    rw [lab_take]
    cases m with
    | zero => rw [List.replicate_zero, List.nil_append, hdB_cons]; exact hc
    | succ m => rw [List.replicate_succ, List.cons_append, hdB_cons]; exact mk_c
  have hh2 : hdB (fun x => clsP x == 9) ([a, 8204, b].take 1).reverse = false := by
    show hdB _ [a] = false
    rw [hdB_cons]; exact hc
  unfold metR
  rw [if_pos rfl, if_pos rfl, hh, hh2, hj]
open Od Ru in
set_option maxHeartbeats 8000000 in
set_option maxRecDepth 100000 in
theorem walk (a0 : Int) (a1 : Int) (a2 : Int) (a3 : Int) (w0 : (Lit.int .i32 a0).wf = true) (w1 : (Lit.int .i32 a1).wf = true) (w2 : (Lit.int .u8 a2).wf = true) (w3 : (Lit.int .u8 a3).wf = true) (w : World) :
    Calls Try.prog 7 #[.int .i32 a0, .int .i32 a1, .int .u8 a2, .int .u8 a3] w fun e w' => e = .returned (.bool true) ∧ Below w.heap.size w w' := by
  have b2 : 0 ≤ a2 ∧ a2 ≤ 255 := by simp only [Lit.wf, Bool.and_eq_true, decide_eq_true_eq] at w2; exact w2
  have b3 : 0 ≤ a3 ∧ a3 ≤ 255 := by simp only [Lit.wf, Bool.and_eq_true, decide_eq_true_eq] at w3; exact w3
  clear w0 w1 w2 w3
  have HO := Ru.hr (Ok.start w)
  have HMl := Ru.hr (fun (W : World) (b : Nat) (h : Bk W b) => met_lit h [a0, 8204, a1] 3 rfl (by omega) W.heap.size rfl 1 (by simp) _ rfl)
  have HMi := Ru.hr (fun (W : World) (b : Nat) (h : Bk W b) (ao : Option Addr) (n cap : Nat) (X : List Int) (hX : X.length = n) (hS : SlP .i32 W ao cap X) (hn : n ≤ 1000000) (i : Nat) (hi : i < X.length) => Met_in h hX hS hn i hi)
  have HCl := Ru.hr (fun (W : World) (b : Nat) (h : Bk W b) => cls_any h a0)
  have HLm := Ru.hr (lab_met a0 a1)
  generalize clsP a0 = cl at *
  go_enter Try.func7, Try.ntmps7
  go_wp2_with fail
  refine (newbook_any _).mono ?_
  rintro e W1 ⟨b, rfl, hb, hB⟩
  have HB := Ru.hr hB
  replace HO := Ru.hr (HO.out.step hb)
  clear hb hB
  go_wp2_with fail
  refine (HCl.out _ _ HB.out).mono ?_
  rintro e W2 ⟨rfl, hb⟩
  replace HB := Ru.hr (HB.out.step hb)
  replace HO := Ru.hr (HO.out.step hb)
  clear hb
  by_cases hc : cl = 9
  · subst hc
    go_wp2_with fail
    refine (awake13_any HB.out).mono ?_
    rintro e w' ⟨rfl, hb⟩
    replace HO := Ru.hr (HO.out.step hb)
    clear hb
    go_wp2_with fail
    go_ret
    exact ⟨rfl, HO.out.1⟩
  · have hc2 : (cl == 9) = false := beq_eq_false_iff_ne.2 hc
    replace HLm := Ru.hr (HLm.out hc)
    go_wp2_with fail
    refine (HMl.out _ _ HB.out).mono ?_
    rintro e W3 ⟨rfl, hb⟩
    replace HB := Ru.hr (HB.out.step hb)
    replace HO := Ru.hr (HO.out.step hb)
    clear hb HMl
    have eg : [a0, 8204, a1][1] = 8204 := rfl
    rw [eg]
    clear eg
    generalize metR 8204 [a0, 8204, a1] 1 = q at *
    obtain ⟨m, hm, hm5⟩ : ∃ m : Nat, a2 % 5 = (m : Int) ∧ m < 5 := ⟨(a2 % 5).toNat, by omega, by omega⟩
    obtain ⟨k, hk, hk5⟩ : ∃ k : Nat, a3 % 5 = (k : Int) ∧ k < 5 := ⟨(a3 % 5).toNat, by omega, by omega⟩
    have ht2 : a2.tmod 5 = (m : Int) := by rw [Int.tmod_eq_emod_of_nonneg b2.1]; exact hm
    have ht3 : a3.tmod 5 = (k : Int) := by rw [Int.tmod_eq_emod_of_nonneg b3.1]; exact hk
    have H1 : Hid ((W3.alloc (.cells #[.int .i32 a0] 21)).ownsRow W3.heap.size 21 1 (.slice (some ⟨W3.heap.size, 0, none⟩) 1 1) 1 (ivs .i32 [a0])) := ⟨by simp [ivs], .inr ⟨W3.heap.size, 1, _, rfl, Nat.le_refl _, heap_new W3 _, Nat.le_refl _, by unfold maxLen; omega, by simp, by simp [ivs]⟩⟩
    have H2 : Hid (Bk (W3.alloc (.cells #[.int .i32 a0] 21)) b ∧ Ok W3.heap.size W3 (W3.alloc (.cells #[.int .i32 a0] 21))) := ⟨HB.out.step ((Below.refl _ _).alloc (Nat.le_refl _) _), (Ok.start W3).alloc⟩
    go_wp2_with fail
    go_loopg [11, 38] m (fun gg vo vi wr => ∃ j : Nat, vi = .int .i64 j ∧ j ≤ m ∧ gg = m - j ∧ Hid (wr.ownsRow W3.heap.size 21 1 vo (j + 1) (ivs .i32 (a0 :: List.replicate j 1614)) ∧ Bk wr b ∧ Ok W3.heap.size W3 wr))
    case atStart => exact ⟨0, rfl, Nat.zero_le _, rfl, H1.out, H2.out.1, H2.out.2⟩
    case round =>
      obtain ⟨j, rfl, hj, hg, H⟩ := hrel
      have HG := Ru.hr hg
      clear hg H1 H2
      by_cases hlt : j < m
      · have z1 : (j : Int) < (m : Int) := by omega
        go_wp2_with (at_builtin; refine app_i32 rfl (.tmp 40) (.tmp 41) rfl wr W3.heap.size (j + 1) _ _ 1614 rfl wr.heap.size rfl rfl H.out.1 (by omega) H.out.2.2.2 (fun v' w' h1 h2 => ?_))
        have H2 : Hid (w'.ownsRow W3.heap.size 21 1 v' (j + 1 + 1) (ivs .i32 (a0 :: List.replicate (j + 1) 1614)) ∧ Bk w' b ∧ Ok W3.heap.size W3 w') := by
          refine ⟨?_, HB.out.step ((ok_below h2 H.out.2.2).1), ok_below h2 H.out.2.2⟩
          rw [List.replicate_succ', ← List.cons_append, ivs_snoc]
          exact h1
        clear h1 h2
        go_roundg (m - (j + 1))
        case measure => rw [HG.out]; omega
        case rel => exact ⟨j + 1, by go_num, by omega, rfl, H2.out⟩
      · have e : j = m := by omega
        subst e
        have z1 : ¬ (j : Int) < (j : Int) := by omega
        obtain ⟨ao, cap, rfl⟩ := own_slice H.out.1
        clear HG hlt hj
        go_wp2_with (at_builtin; refine app_i32 rfl (.tmp 46) (.tmp 47) rfl wr W3.heap.size (j + 1) _ _ 8204 rfl wr.heap.size rfl rfl H.out.1 (by omega) H.out.2.2.2 (fun v' w' h1 h2 => ?_))
        have H2 : Hid (w'.ownsRow W3.heap.size 21 1 v' (j + 1 + 1) (ivs .i32 ((a0 :: List.replicate j 1614) ++ [8204])) ∧ Ok W3.heap.size W3 w') := by
          refine ⟨?_, ok_below h2 H.out.2.2⟩
          rw [ivs_snoc]
          exact h1
        clear h1 h2 H
        go_loopg [11, 52] k (fun gg vo vi wr => ∃ t : Nat, vi = .int .i64 t ∧ t ≤ k ∧ gg = k - t ∧ Hid (wr.ownsRow W3.heap.size 21 1 vo (j + 1 + 1 + t) (ivs .i32 ((a0 :: List.replicate j 1614) ++ [8204] ++ List.replicate t 1617)) ∧ Ok W3.heap.size W3 wr))
        case atStart => exact ⟨0, rfl, Nat.zero_le _, rfl, by rw [List.replicate_zero, List.append_nil]; exact H2.out.1, H2.out.2⟩
        case round =>
          obtain ⟨t, rfl, ht, hg, H⟩ := hrel
          have HG := Ru.hr hg
          clear hg H2
          by_cases hlt : t < k
          · have z2 : (t : Int) < (k : Int) := by omega
            go_wp2_with (at_builtin; refine app_i32 rfl (.tmp 54) (.tmp 55) rfl wr W3.heap.size (j + 1 + 1 + t) _ _ 1617 rfl wr.heap.size rfl rfl H.out.1 (by omega) H.out.2.2 (fun v' w' h1 h2 => ?_))
            have H2 : Hid (w'.ownsRow W3.heap.size 21 1 v' (j + 1 + 1 + (t + 1)) (ivs .i32 ((a0 :: List.replicate j 1614) ++ [8204] ++ List.replicate (t + 1) 1617)) ∧ Ok W3.heap.size W3 w') := by
              refine ⟨?_, ok_below h2 H.out.2⟩
              rw [List.replicate_succ', ← List.append_assoc, ivs_snoc]
              exact h1
            clear h1 h2
            go_roundg (k - (t + 1))
            case measure => rw [HG.out]; omega
            case rel => exact ⟨t + 1, by go_num, by omega, rfl, H2.out⟩
          · have e : t = k := by omega
            subst e
            have z2 : ¬ (t : Int) < (t : Int) := by omega
            clear HG hlt ht
            go_wp2_with (at_builtin; refine app_i32 rfl (.tmp 58) (.tmp 60) rfl wr W3.heap.size (j + 1 + 1 + t) _ _ a1 rfl wr.heap.size rfl rfl H.out.1 (by omega) H.out.2.2 (fun v' w' h1 h2 => ?_); have H2 : Hid (w'.ownsRow W3.heap.size 21 1 v' (lab a0 a1 j t).length (ivs .i32 (lab a0 a1 j t)) ∧ Ok W3.heap.size W3 w') := (by
              refine ⟨?_, ok_below h2 H.out.2⟩
              have e1 : lab a0 a1 j t = (a0 :: List.replicate j 1614) ++ [8204] ++ List.replicate t 1617 ++ [a1] := by unfold lab; simp
              rw [lab_len, e1, ivs_snoc, show j + t + 3 = j + 1 + 1 + t + 1 by omega]
              exact h1); clear h1 h2 H; obtain ⟨ao2, cap2, rfl, hS2⟩ := own_sl H2.out.1; have HS2 := Ru.hr hS2; clear hS2)
            have hll := lab_len a0 a1 j t
            have HMm := Ru.hr (HMi.out w' b (HB.out.step H2.out.2.1) ao2 (lab a0 a1 j t).length cap2 (lab a0 a1 j t) rfl HS2.out (by omega) (j + 1) (by omega))
            rw [lab_get, HLm.out] at HMm
            have HO2 : Hid (Ok w.heap.size w w') := ⟨HO.out.1.trans (H2.out.2.1.mono HO.out.2), Nat.le_trans HO.out.2 H2.out.2.2⟩
            have HB2 := Ru.hr (HB.out.step H2.out.2.1)
            clear HO HB
            have HO := HO2
            have HB := HB2
            clear HO2 HB2 hll HLm
            refine HMm.out.mono ?_
            rintro e W6 ⟨rfl, hb⟩
            replace HB := Ru.hr (HB.out.step hb)
            replace HO := Ru.hr (HO.out.step hb)
            clear hb
            go_wp2_with fail
            refine (awake13_any HB.out).mono ?_
            rintro e w' ⟨rfl, hb⟩
            replace HO := Ru.hr (HO.out.step hb)
            clear hb
            go_wp2_with fail
            go_ret
            exact ⟨rfl, HO.out.1⟩

set_option maxRecDepth 100000 in
theorem lifted (os : Os) (started : os.Started) (H : Type) (enc : TypeId × Value → H) :
    ReturnsInHanded {} Try.checked os 7 .any (Rows.ruleMarksSpec.pre6 enc Try.prog Try.f7 Rows.ruleMarksRow.domain false) (Rows.ruleMarksSpec.post enc Try.prog Try.f7 false true false false) := by
  refine returnsInHanded_of_change (C := Try.checked) own started (by kernel_rfl) Try.func7
    (ChangeSpec.witness6 (enc := enc) (C := Try.checked) false ⟨#[], #[.int .i32 0, .int .i32 0, .int .u8 0, .int .u8 0], []⟩ 8 (by kernel_rfl) (by kernel_rfl) (by kernel_rfl) (by kernel_rfl)) ?_
  intro W base args ds gs before hval0 hW hcnd _
  have hval : ∀ (j : Nat) t v, Try.f7.params[j]? = some t → args[j]? = some v → Value.okWide Try.prog W .any base t v := hval0
  have hW' := hW
  obtain ⟨p, q, hA0, hV, rfl, hfz, hnd⟩ := hW
  have hA : DataW.TrodAll enc Try.prog W 0 (fun _ => true) true Try.f7.params.toList args.toList ds p := hA0
  rw [Try.params7] at hA hval
  obtain ⟨v0, vs0, d0, ds0, p0, q0, hargs, rfl, rfl, h0, r0⟩ := trodAll_cons hA
  obtain ⟨v1, vs1, d1, ds1, p1, q1, rfl, rfl, rfl, h1, r1⟩ := trodAll_cons r0
  obtain ⟨v2, vs2, d2, ds2, p2, q2, rfl, rfl, rfl, h2, r2⟩ := trodAll_cons r1
  obtain ⟨v3, vs3, d3, ds3, p3, q3, rfl, rfl, rfl, h3, r3⟩ := trodAll_cons r2
  obtain ⟨rfl, rfl, rfl⟩ := trodAll_nil r3
  obtain rfl : args = #[v0, v1, v2, v3] := by cases args; simp_all
  obtain ⟨rfl, rfl⟩ := trodVars_none hV
  obtain ⟨a0, rfl, rfl, rfl, w0⟩ := open_int Try.underlying21 (hval 0 21 v0 rfl rfl) h0
  obtain ⟨a1, rfl, rfl, rfl, w1⟩ := open_int Try.underlying21 (hval 1 21 v1 rfl rfl) h1
  obtain ⟨a2, rfl, rfl, rfl, w2⟩ := open_int Try.underlying5 (hval 2 5 v2 rfl rfl) h2
  obtain ⟨a3, rfl, rfl, rfl, w3⟩ := open_int Try.underlying5 (hval 3 5 v3 rfl rfl) h3
  clear hA0 hval0
  refine (walk a0 a1 a2 a3 w0 w1 w2 w3 W).mono fun e W' ⟨he, bel⟩ => ?_
  subst he
  exact ⟨_, rfl, _, _, _, [], _, [], hW', trodAll_mk1 (shut_bool Try.underlying4 _), (trodAll_cons_mk (shut_int Try.underlying21 w0) (trodAll_cons_mk (shut_int Try.underlying21 w1) (trodAll_cons_mk (shut_int Try.underlying5 w2) (trodAll_cons_mk (shut_int Try.underlying5 w3) trodAll_mk0)))), rfl, bel.frame _, fun h => by cases h⟩

theorem over : Rows.ruleMarksRow.holds Try.pinned (OpenSpec.ofChange Rows.ruleMarksSpec) :=
  OpenClaim.holds_of_wide 7 Try.f7 rfl rfl rfl rfl rfl rfl rfl ⟨rfl, rfl, rfl, rfl, rfl⟩ rfl rfl rfl rfl rfl (by kernel_rfl) Try.func7 (by kernel_rfl)
    (of_decide_eq_true (by kernel_rfl)) (by unfold Func.isWrapper; first | (rw [if_pos (by decide +kernel)]; kernel_rfl) | (rw [if_neg (by decide +kernel)]; exact ⟨rfl, rfl⟩))
    (fun os started H enc _ => lifted os started H enc)

end Go.Proofs.Ytbamhbfncddieaa.ruleMarks
namespace Go.Proofs.Ytbamhbfncddieaa
theorem ruleMarks_holds : Rows.RuleMarksSaid := ruleMarks.over
#print axioms ruleMarks_holds
end Go.Proofs.Ytbamhbfncddieaa
