/-
  For every slice l of runes and every i the law RuleMeets returns true, and l reads behind the call as it read before. No condition.
-/
import Derived.Test.YtbamhbfncddieaaRows
import Derived.Test.YtbamhbfncddieaaRul8
import Derived.WalkKit
import Derived.ProofKit
import Derived.OpenShut
import Derived.ShutString
import Derived.ChangeOld
import Derived.Below
namespace Go.Proofs.Ytbamhbfncddieaa.ruleMeets
open Go.ChangeShapes Go.WideShapes Go.ChangeAt Go.RowKit
open Go.ChangeMaps (open_string shut_string)
set_option linter.unusedVariables false

theorem own : ownKnob Try.prog.godebug = none := by kernel_rfl
theorem laidOut : laidOutB Try.prog = true := by kernel_rfl

/-- WHAT THE WALK IS TOLD OF A SLICE OF INTEGERS THAT CAME IN: it is nil; or it leads to a row of 'cap' cells, the numbers 'zs' (the first 'len' are its elements, the rest its spare room), each fitting its kind. -/
def IsRow (k : IntKind) (w : World) (a : Option Addr) (len cap : Nat) (zs : List Int) : Prop :=
  (a = none ∧ len = 0 ∧ cap = 0 ∧ zs = []) ∨
  ∃ x, a = some x ∧ len ≤ cap ∧ cap ≤ maxLen ∧ zs.length = cap ∧ (∀ i, i < zs.length → w.cell? (x.add i) = some (.int k (zs.getD i 0))) ∧ ∀ n ∈ zs, (Lit.int k n).wf = true

open Od Ru in
set_option maxHeartbeats 8000000 in
set_option maxRecDepth 100000 in
theorem walk (a0 : Option Addr) (len0 cap0 : Nat) (z0 : List Int) (a1 : Int) (w : World) (w0 : IsRow .i32 w a0 len0 cap0 z0) (w1 : (Lit.int .i64 a1).wf = true) :
    Calls Try.prog 5 #[.slice a0 len0 cap0, .int .i64 a1] w fun e w' => e = .returned (.bool true) ∧ Below w.heap.size w w' := by
  obtain ⟨hlen, hS, hZ⟩ := row_sl w0
  have HZ : Hid (∀ y ∈ z0.take len0, -2147483648 ≤ y ∧ y ≤ 2147483647) := hZ
  have HS : Hid (SlP .i32 w a0 cap0 (z0.take len0)) := hS
  have HSl : Hid (Sl .i32 w (.slice a0 len0 cap0) (z0.take len0)) := ⟨a0, cap0, by rw [hlen], hS⟩
  have hLen : Hid ((z0.take len0).length = len0) := hlen
  generalize z0.take len0 = zs at *
  clear w0 w1 hS hZ hlen
  have HO := Ru.hr (Ok.start w)
  go_enter Try.func5, Try.ntmps5
  go_wp2_with fail
  refine (newbook_any _).mono ?_
  rintro e W1 ⟨b, rfl, hb, hB⟩
  have HB := Ru.hr hB
  replace HO := Ru.hr (HO.out.step hb)
  clear hb hB
  by_cases hl : 20 < len0
  · go_wp2_with fail
    refine (awake13_any HB.out).mono ?_
    rintro e w' ⟨rfl, hb⟩
    replace HO := Ru.hr (HO.out.step hb)
    clear hb
    go_wp2_with fail
    go_ret
    exact ⟨rfl, HO.out.1⟩
  · have hn : Hid (zs.length ≤ 1000000) := by show _ ≤ _; have := hLen.out; omega
    have HFi := Ru.hr (fun (W : World) (h : Bk W b) (hb : Below w.heap.size w W) => first_any h hLen.out (HS.out.step hb) (by omega : len0 ≤ 1000000))
    have HMo := Ru.hr (fun (W : World) (h : a1 < 0 ∨ (len0 : Int) ≤ a1) => Met_out W b a0 len0 cap0 a1 h)
    have HMi := Ru.hr (fun (W : World) (h : Bk W b) (hb : Below w.heap.size w W) (k : Nat) (hk : k < zs.length) => Met_in h hLen.out (HS.out.step hb) (by omega : len0 ≤ 1000000) k hk)
    go_wp2_with fail
    refine (ints13_any _ _ _ (HSl.out.step HO.out.1) hn.out HZ.out).mono ?_
    rintro e W2 ⟨v2, rfl, h1, hb⟩
    have SN := Ru.hr h1.sl
    replace HB := Ru.hr (HB.out.step hb)
    replace HO := Ru.hr (HO.out.step hb)
    clear h1 hb
    by_cases h0 : a1 < 0
    · go_wp2_with fail
      refine (HMo.out _ (.inl h0)).mono ?_
      rintro e W3 ⟨rfl, rfl⟩
      go_wp2_with fail
      refine (rfirst_any SN.out hn.out).mono ?_
      rintro e W5 ⟨rfl, hb⟩
      replace HB := Ru.hr (HB.out.step hb)
      replace HO := Ru.hr (HO.out.step hb)
      clear hb
      go_wp2_with fail
      refine (HFi.out _ HB.out HO.out.1).mono ?_
      rintro e W6 ⟨rfl, hb⟩
      replace HB := Ru.hr (HB.out.step hb)
      replace HO := Ru.hr (HO.out.step hb)
      clear hb
      generalize frM zs zs.length 0 = z at *
      by_cases hzz : z < 0
      · have hfv : fmV z = .tuple #[.int .i64 0, .bool false] := by unfold fmV; rw [if_pos hzz, decide_eq_false (by omega)]
        rw [hfv]
        have hz4 : ¬ 0 ≤ z := by omega
        have hz5 : z ≤ 0 := by omega
        have hmx : max z 0 = 0 := Int.max_eq_right hz5
        have hd0 : decide (0 ≤ z) = false := decide_eq_false hz4
        clear hfv
        go_wp2_with fail
        refine (awake13_any HB.out).mono ?_
        rintro e w' ⟨rfl, hb⟩
        replace HO := Ru.hr (HO.out.step hb)
        clear hb
        go_wp2_with fail
        go_ret
        exact ⟨by first | rfl | (show Ending.returned (.bool (!decide (0 ≤ z))) = _; rw [hd0]; rfl), HO.out.1⟩
      · have hfv : fmV z = .tuple #[.int .i64 z, .bool true] := by unfold fmV; rw [if_neg hzz, decide_eq_true (by omega)]
        rw [hfv]
        have hz4 : 0 ≤ z := by omega
        have hmx : max z 0 = z := Int.max_eq_left hz4
        have hd0 : decide (0 ≤ z) = true := decide_eq_true hz4
        clear hfv hzz
        go_wp2_with fail
        refine (awake13_any HB.out).mono ?_
        rintro e w' ⟨rfl, hb⟩
        replace HO := Ru.hr (HO.out.step hb)
        clear hb
        go_wp2_with fail
        go_ret
        exact ⟨by first | rfl | (show Ending.returned (.bool (!decide (0 ≤ z))) = _; rw [hd0]; rfl), HO.out.1⟩
    · by_cases h1 : (len0 : Int) ≤ a1
      · go_wp2_with fail
        refine (HMo.out _ (.inr h1)).mono ?_
        rintro e W3 ⟨rfl, rfl⟩
        go_wp2_with fail
        refine (rfirst_any SN.out hn.out).mono ?_
        rintro e W5 ⟨rfl, hb⟩
        replace HB := Ru.hr (HB.out.step hb)
        replace HO := Ru.hr (HO.out.step hb)
        clear hb
        go_wp2_with fail
        refine (HFi.out _ HB.out HO.out.1).mono ?_
        rintro e W6 ⟨rfl, hb⟩
        replace HB := Ru.hr (HB.out.step hb)
        replace HO := Ru.hr (HO.out.step hb)
        clear hb
        generalize frM zs zs.length 0 = z at *
        by_cases hzz : z < 0
        · have hfv : fmV z = .tuple #[.int .i64 0, .bool false] := by unfold fmV; rw [if_pos hzz, decide_eq_false (by omega)]
          rw [hfv]
          have hz4 : ¬ 0 ≤ z := by omega
          have hz5 : z ≤ 0 := by omega
          have hmx : max z 0 = 0 := Int.max_eq_right hz5
          have hd0 : decide (0 ≤ z) = false := decide_eq_false hz4
          clear hfv
          go_wp2_with fail
          refine (awake13_any HB.out).mono ?_
          rintro e w' ⟨rfl, hb⟩
          replace HO := Ru.hr (HO.out.step hb)
          clear hb
          go_wp2_with fail
          go_ret
          exact ⟨by first | rfl | (show Ending.returned (.bool (!decide (0 ≤ z))) = _; rw [hd0]; rfl), HO.out.1⟩
        · have hfv : fmV z = .tuple #[.int .i64 z, .bool true] := by unfold fmV; rw [if_neg hzz, decide_eq_true (by omega)]
          rw [hfv]
          have hz4 : 0 ≤ z := by omega
          have hmx : max z 0 = z := Int.max_eq_left hz4
          have hd0 : decide (0 ≤ z) = true := decide_eq_true hz4
          clear hfv hzz
          go_wp2_with fail
          refine (awake13_any HB.out).mono ?_
          rintro e w' ⟨rfl, hb⟩
          replace HO := Ru.hr (HO.out.step hb)
          clear hb
          go_wp2_with fail
          go_ret
          exact ⟨by first | rfl | (show Ending.returned (.bool (!decide (0 ≤ z))) = _; rw [hd0]; rfl), HO.out.1⟩
      · obtain ⟨k, rfl⟩ : ∃ k : Nat, a1 = k := ⟨a1.toNat, by omega⟩
        have hk : k < zs.length := by have := hLen.out; omega
        go_wp2_with fail
        refine (HMi.out _ HB.out HO.out.1 k hk).mono ?_
        rintro e W3 ⟨rfl, hb⟩
        replace SN := Ru.hr (SN.out.step hb)
        replace HB := Ru.hr (HB.out.step hb)
        replace HO := Ru.hr (HO.out.step hb)
        clear hb
        go_wp2_with fail
        refine (rmet_any SN.out hn.out k hk).mono ?_
        rintro e W4 ⟨rfl, hb⟩
        replace SN := Ru.hr (SN.out.step hb)
        replace HB := Ru.hr (HB.out.step hb)
        replace HO := Ru.hr (HO.out.step hb)
        clear hb HMi HMo
        generalize metR zs[k] zs k = q at *
        go_wp2_with fail
        refine (rfirst_any SN.out hn.out).mono ?_
        rintro e W5 ⟨rfl, hb⟩
        replace HB := Ru.hr (HB.out.step hb)
        replace HO := Ru.hr (HO.out.step hb)
        clear hb
        go_wp2_with fail
        refine (HFi.out _ HB.out HO.out.1).mono ?_
        rintro e W6 ⟨rfl, hb⟩
        replace HB := Ru.hr (HB.out.step hb)
        replace HO := Ru.hr (HO.out.step hb)
        clear hb
        generalize frM zs zs.length 0 = z at *
        by_cases hzz : z < 0
        · have hfv : fmV z = .tuple #[.int .i64 0, .bool false] := by unfold fmV; rw [if_pos hzz, decide_eq_false (by omega)]
          rw [hfv]
          have hz4 : ¬ 0 ≤ z := by omega
          have hz5 : z ≤ 0 := by omega
          have hmx : max z 0 = 0 := Int.max_eq_right hz5
          have hd0 : decide (0 ≤ z) = false := decide_eq_false hz4
          clear hfv
          go_wp2_with fail
          refine (awake13_any HB.out).mono ?_
          rintro e w' ⟨rfl, hb⟩
          replace HO := Ru.hr (HO.out.step hb)
          clear hb
          go_wp2_with fail
          go_ret
          exact ⟨by first | rfl | (show Ending.returned (.bool (!decide (0 ≤ z))) = _; rw [hd0]; rfl), HO.out.1⟩
        · have hfv : fmV z = .tuple #[.int .i64 z, .bool true] := by unfold fmV; rw [if_neg hzz, decide_eq_true (by omega)]
          rw [hfv]
          have hz4 : 0 ≤ z := by omega
          have hmx : max z 0 = z := Int.max_eq_left hz4
          have hd0 : decide (0 ≤ z) = true := decide_eq_true hz4
          clear hfv hzz
          go_wp2_with fail
          refine (awake13_any HB.out).mono ?_
          rintro e w' ⟨rfl, hb⟩
          replace HO := Ru.hr (HO.out.step hb)
          clear hb
          go_wp2_with fail
          go_ret
          exact ⟨by first | rfl | (show Ending.returned (.bool (!decide (0 ≤ z))) = _; rw [hd0]; rfl), HO.out.1⟩

set_option maxRecDepth 100000 in
theorem lifted (os : Os) (started : os.Started) (H : Type) (enc : TypeId × Value → H) :
    ReturnsInHanded {} Try.checked os 5 .any (Rows.ruleMeetsSpec.pre6 enc Try.prog Try.f5 Rows.ruleMeetsRow.domain false) (Rows.ruleMeetsSpec.post enc Try.prog Try.f5 false true false false) := by
  refine returnsInHanded_of_change (C := Try.checked) own started (by kernel_rfl) Try.func5
    (ChangeSpec.witness6 (enc := enc) (C := Try.checked) false ⟨#[], #[.slice none 0 0, .int .i64 0], []⟩ 8 (by kernel_rfl) (by kernel_rfl) (by kernel_rfl) (by kernel_rfl)) ?_
  intro W base args ds gs before hval0 hW hcnd _
  have hval : ∀ (j : Nat) t v, Try.f5.params[j]? = some t → args[j]? = some v → Value.okWide Try.prog W .any base t v := hval0
  have hW' := hW
  obtain ⟨p, q, hA0, hV, rfl, hfz, hnd⟩ := hW
  have hA : DataW.TrodAll enc Try.prog W 0 (fun _ => true) true Try.f5.params.toList args.toList ds p := hA0
  rw [Try.params5] at hA hval
  obtain ⟨v0, vs0, d0, ds0, p0, q0, hargs, rfl, rfl, h0, r0⟩ := trodAll_cons hA
  obtain ⟨v1, vs1, d1, ds1, p1, q1, rfl, rfl, rfl, h1, r1⟩ := trodAll_cons r0
  obtain ⟨rfl, rfl, rfl⟩ := trodAll_nil r1
  obtain rfl : args = #[v0, v1] := by cases args; simp_all
  obtain ⟨rfl, rfl⟩ := trodVars_none hV
  obtain ⟨a0, len0, cap0, rfl⟩ := okWide_slice Try.underlying22 (hval 0 22 v0 rfl rfl)
  have k0 := h0
  have lt0 : ∀ x ∈ p0, x.block < W.heap.size := by obtain ⟨m, hm⟩ := k0; exact DataW.trod_lt m _ _ _ hm
  obtain ⟨z0, w0⟩ : ∃ zs, IsRow .i32 W a0 len0 cap0 zs := by
    obtain ⟨fuel, hf⟩ := h0
    rcases open_ints Try.underlying22 Try.underlying21 (by kernel_rfl) hf with ⟨hcs, _⟩ | ⟨x, l, c, zs, hcs, _, hl, hm, hz, _, hcell, hwz⟩
    · simp [Value.cells] at hcs
      obtain ⟨rfl, rfl, rfl⟩ := hcs
      exact ⟨[], .inl ⟨rfl, rfl, rfl, rfl⟩⟩
    · simp [Value.cells] at hcs
      obtain ⟨rfl, rfl, rfl⟩ := hcs
      exact ⟨zs, .inr ⟨_, rfl, hl, hm, by simpa using hz, hcell, hwz⟩⟩
  obtain ⟨a1, rfl, rfl, rfl, w1⟩ := open_int Try.underlying3 (hval 1 3 v1 rfl rfl) h1
  clear hA0 hval0
  refine (walk a0 len0 cap0 z0 a1 W w0 w1).mono fun e W' ⟨he, bel⟩ => ?_
  subst he
  exact ⟨_, rfl, _, _, _, [], _, [], hW', trodAll_mk1 (shut_bool Try.underlying4 _), (trodAll_cons_mk (Below.trod laidOut (by kernel_rfl) (of_decide_eq_true (by kernel_rfl)) k0 bel lt0) (trodAll_cons_mk (shut_int Try.underlying3 w1) trodAll_mk0)), rfl, bel.frame _, fun h => by cases h⟩

theorem over : Rows.ruleMeetsRow.holds Try.pinned (OpenSpec.ofChange Rows.ruleMeetsSpec) :=
  OpenClaim.holds_of_wide 5 Try.f5 rfl rfl rfl rfl rfl rfl rfl ⟨rfl, rfl, rfl, rfl, rfl⟩ rfl rfl rfl rfl rfl (by kernel_rfl) Try.func5 (by kernel_rfl)
    (of_decide_eq_true (by kernel_rfl)) (by unfold Func.isWrapper; first | (rw [if_pos (by decide +kernel)]; kernel_rfl) | (rw [if_neg (by decide +kernel)]; exact ⟨rfl, rfl⟩))
    (fun os started H enc _ => lifted os started H enc)

end Go.Proofs.Ytbamhbfncddieaa.ruleMeets
namespace Go.Proofs.Ytbamhbfncddieaa
theorem ruleMeets_holds : Rows.RuleMeetsSaid := ruleMeets.over
#print axioms ruleMeets_holds
end Go.Proofs.Ytbamhbfncddieaa
