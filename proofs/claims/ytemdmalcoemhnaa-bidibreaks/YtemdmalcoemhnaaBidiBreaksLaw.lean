/-
  For every slice l of runes the law BidiBreaks returns true, and l reads behind the call as it read before. No condition.
-/
import Derived.Test.YtemdmalcoemhnaaRows
import Derived.Test.YtemdmalcoemhnaaBid1x7
import Derived.WalkKit
import Derived.ProofKit
import Derived.OpenShut
import Derived.ShutString
import Derived.ChangeOld
import Derived.Below
namespace Go.Proofs.Ytemdmalcoemhnaa.bidiBreaks
open Go.ChangeShapes Go.WideShapes Go.ChangeAt Go.RowKit
open Go.ChangeMaps (open_string shut_string)
set_option linter.unusedVariables false

theorem own : ownKnob Try.prog.godebug = none := by kernel_rfl
theorem laidOut : laidOutB Try.prog = true := by kernel_rfl

/-- WHAT THE WALK IS TOLD OF A SLICE OF INTEGERS THAT CAME IN: it is nil; or it leads to a row of 'cap' cells, the numbers 'zs' (the first 'len' are its elements, the rest its spare room), each fitting its kind. -/
def IsRow (k : IntKind) (w : World) (a : Option Addr) (len cap : Nat) (zs : List Int) : Prop :=
  (a = none ∧ len = 0 ∧ cap = 0 ∧ zs = []) ∨
  ∃ x, a = some x ∧ len ≤ cap ∧ cap ≤ maxLen ∧ zs.length = cap ∧ (∀ i, i < zs.length → w.cell? (x.add i) = some (.int k (zs.getD i 0))) ∧ ∀ n ∈ zs, (Lit.int k n).wf = true

open Od Bi in
set_option maxHeartbeats 8000000 in
set_option maxRecDepth 100000 in
theorem walk (a0 : Option Addr) (len0 cap0 : Nat) (z0 : List Int) (w : World) (w0 : IsRow .i32 w a0 len0 cap0 z0) :
    Calls Try.prog 3 #[.slice a0 len0 cap0] w fun e w' => e = .returned (.bool true) ∧ Below w.heap.size w w' := by
  obtain ⟨hlen, hS, hZ⟩ := row_sl w0
  have HZ : Hid (∀ y ∈ z0.take len0, -2147483648 ≤ y ∧ y ≤ 2147483647) := hZ
  have HS : Hid (SlP .i32 w a0 cap0 (z0.take len0)) := hS
  have HSl : Hid (Sl .i32 w (.slice a0 len0 cap0) (z0.take len0)) := ⟨a0, cap0, by rw [hlen], hS⟩
  have hLen : Hid ((z0.take len0).length = len0) := hlen
  generalize z0.take len0 = zs at *
  clear w0 hS hZ hlen
  have HO := Bi.hr (Ok.start w)
  go_enter Try.func3, Try.ntmps3
  go_wp2_with fail
  refine (newbook_any _).mono ?_
  rintro e W1 ⟨b, rfl, hb, hB⟩
  have HB := Bi.hr hB
  replace HO := Bi.hr (HO.out.step hb)
  clear hb hB
  by_cases hl : 30 < len0
  · go_wp2_with fail
    refine (Bi.awake_any HB.out).mono ?_
    rintro e w' ⟨rfl, hb⟩
    replace HO := Bi.hr (HO.out.step hb)
    clear hb
    go_wp2_with fail
    go_ret
    exact ⟨rfl, HO.out.1⟩
  · have hn : Hid (zs.length ≤ 1000000) := by show _ ≤ _; have := hLen.out; omega
    go_wp2_with fail
    refine (broken_any HB.out hLen.out (HS.out.step HO.out.1) (by omega)).mono ?_
    rintro e W2 ⟨rfl, hb⟩
    replace HB := Bi.hr (HB.out.step hb)
    replace HO := Bi.hr (HO.out.step hb)
    clear hb
    by_cases h0 : brP zs = 0
    · have HE := Bi.hr h0
      have q0 : (brP zs == 0) = true := beq_iff_eq.2 h0
      clear h0
      go_wp2_with fail
      refine (rtl_any HB.out hLen.out (HS.out.step HO.out.1) (by omega)).mono ?_
      rintro e W8 ⟨rfl, hb⟩
      replace HB := Bi.hr (HB.out.step hb)
      replace HO := Bi.hr (HO.out.step hb)
      clear hb
      cases hq : rtP zs
      · have HQ := Bi.hr hq
        clear hq
        go_wp2_with fail
        refine (ints14_any _ _ _ (HSl.out.step HO.out.1) hn.out HZ.out).mono ?_
        rintro e W3 ⟨v3, rfl, h1, hb⟩
        have S3 := Bi.hr h1.sl
        replace HB := Bi.hr (HB.out.step hb)
        replace HO := Bi.hr (HO.out.step hb)
        clear h1 hb
        go_wp2_with fail
        refine (rbroken_any S3.out hn.out).mono ?_
        rintro e W4 ⟨rfl, hb⟩
        replace HB := Bi.hr (HB.out.step hb)
        replace HO := Bi.hr (HO.out.step hb)
        clear S3 hb
        go_wp2_with fail
        refine (rtl_any HB.out hLen.out (HS.out.step HO.out.1) (by omega)).mono ?_
        rintro e W5 ⟨rfl, hb⟩
        replace HB := Bi.hr (HB.out.step hb)
        replace HO := Bi.hr (HO.out.step hb)
        clear hb
        go_wp2_with fail
        refine (ints14_any _ _ _ (HSl.out.step HO.out.1) hn.out HZ.out).mono ?_
        rintro e W6 ⟨v6, rfl, h1, hb⟩
        have S6 := Bi.hr h1.sl
        replace HB := Bi.hr (HB.out.step hb)
        replace HO := Bi.hr (HO.out.step hb)
        clear h1 hb
        go_wp2_with fail
        refine (right14_any S6.out hn.out).mono ?_
        rintro e W7 ⟨rfl, hb⟩
        replace HB := Bi.hr (HB.out.step hb)
        replace HO := Bi.hr (HO.out.step hb)
        clear S6 hb
        go_wp2_with fail
        refine (Bi.awake_any HB.out).mono ?_
        rintro e w' ⟨rfl, hb⟩
        replace HO := Bi.hr (HO.out.step hb)
        clear hb
        go_wp2_with fail
        go_ret
        exact ⟨by first | rfl | simp [HQ.out], HO.out.1⟩
      · obtain ⟨x, xs, hx⟩ := br_ne HE.out
        have hd : bdP x = 1 ∨ bdP x = 2 := br_rt' (by rw [← hx]; exact HE.out) (by rw [← hx]; exact hq)
        have HQ := Bi.hr hq
        obtain ⟨bb, off, e0, hbb, c1⟩ := HS.out.at_ 0 (by rw [hx]; simp)
        have c0 : w.cell? ⟨bb, off, none⟩ = some (.int .i32 x) := by
          have e : zs[0]'(by rw [hx]; simp) = x := by simp [hx]
          rw [← e]; exact c1
        have z0 : (0 : Int) < (len0 : Int) := by
          have := hLen.out
          rw [hx, List.length_cons] at this
          omega
        subst e0
        clear c1 hq hx
        have d0 := (HO.out.1.cell (p := ⟨bb, off, none⟩) hbb).trans c0
        by_cases hd1 : bdP x = 1
        · have HV := Bi.hr (fun (W : World) (h : Bk W b) => bd_any h x)
          rw [hd1] at HV
          clear hd hd1
          go_wp2_with fail
          refine (HV.out _ HB.out).mono ?_
          rintro e W9 ⟨rfl, hb⟩
          replace HB := Bi.hr (HB.out.step hb)
          replace HO := Bi.hr (HO.out.step hb)
          clear hb d0
          go_wp2_with fail
          refine (ints14_any _ _ _ (HSl.out.step HO.out.1) hn.out HZ.out).mono ?_
          rintro e W3 ⟨v3, rfl, h1, hb⟩
          have S3 := Bi.hr h1.sl
          replace HB := Bi.hr (HB.out.step hb)
          replace HO := Bi.hr (HO.out.step hb)
          clear h1 hb
          go_wp2_with fail
          refine (rbroken_any S3.out hn.out).mono ?_
          rintro e W4 ⟨rfl, hb⟩
          replace HB := Bi.hr (HB.out.step hb)
          replace HO := Bi.hr (HO.out.step hb)
          clear S3 hb
          go_wp2_with fail
          refine (rtl_any HB.out hLen.out (HS.out.step HO.out.1) (by omega)).mono ?_
          rintro e W5 ⟨rfl, hb⟩
          replace HB := Bi.hr (HB.out.step hb)
          replace HO := Bi.hr (HO.out.step hb)
          clear hb
          go_wp2_with fail
          refine (ints14_any _ _ _ (HSl.out.step HO.out.1) hn.out HZ.out).mono ?_
          rintro e W6 ⟨v6, rfl, h1, hb⟩
          have S6 := Bi.hr h1.sl
          replace HB := Bi.hr (HB.out.step hb)
          replace HO := Bi.hr (HO.out.step hb)
          clear h1 hb
          go_wp2_with fail
          refine (right14_any S6.out hn.out).mono ?_
          rintro e W7 ⟨rfl, hb⟩
          replace HB := Bi.hr (HB.out.step hb)
          replace HO := Bi.hr (HO.out.step hb)
          clear S6 hb
          go_wp2_with fail
          refine (Bi.awake_any HB.out).mono ?_
          rintro e w' ⟨rfl, hb⟩
          replace HO := Bi.hr (HO.out.step hb)
          clear hb
          go_wp2_with fail
          go_ret
          exact ⟨rfl, HO.out.1⟩
        · have HV := Bi.hr (fun (W : World) (h : Bk W b) => bd_any h x)
          rw [hd.resolve_left hd1] at HV
          clear hd hd1
          go_wp2_with fail
          refine (HV.out _ HB.out).mono ?_
          rintro e W9 ⟨rfl, hb⟩
          replace HB := Bi.hr (HB.out.step hb)
          replace HO := Bi.hr (HO.out.step hb)
          clear hb d0
          have d0 := (HO.out.1.cell (p := ⟨bb, off, none⟩) hbb).trans c0
          go_wp2_with fail
          refine (HV.out _ HB.out).mono ?_
          rintro e W10 ⟨rfl, hb⟩
          replace HB := Bi.hr (HB.out.step hb)
          replace HO := Bi.hr (HO.out.step hb)
          clear hb d0
          go_wp2_with fail
          refine (ints14_any _ _ _ (HSl.out.step HO.out.1) hn.out HZ.out).mono ?_
          rintro e W3 ⟨v3, rfl, h1, hb⟩
          have S3 := Bi.hr h1.sl
          replace HB := Bi.hr (HB.out.step hb)
          replace HO := Bi.hr (HO.out.step hb)
          clear h1 hb
          go_wp2_with fail
          refine (rbroken_any S3.out hn.out).mono ?_
          rintro e W4 ⟨rfl, hb⟩
          replace HB := Bi.hr (HB.out.step hb)
          replace HO := Bi.hr (HO.out.step hb)
          clear S3 hb
          go_wp2_with fail
          refine (rtl_any HB.out hLen.out (HS.out.step HO.out.1) (by omega)).mono ?_
          rintro e W5 ⟨rfl, hb⟩
          replace HB := Bi.hr (HB.out.step hb)
          replace HO := Bi.hr (HO.out.step hb)
          clear hb
          go_wp2_with fail
          refine (ints14_any _ _ _ (HSl.out.step HO.out.1) hn.out HZ.out).mono ?_
          rintro e W6 ⟨v6, rfl, h1, hb⟩
          have S6 := Bi.hr h1.sl
          replace HB := Bi.hr (HB.out.step hb)
          replace HO := Bi.hr (HO.out.step hb)
          clear h1 hb
          go_wp2_with fail
          refine (right14_any S6.out hn.out).mono ?_
          rintro e W7 ⟨rfl, hb⟩
          replace HB := Bi.hr (HB.out.step hb)
          replace HO := Bi.hr (HO.out.step hb)
          clear S6 hb
          go_wp2_with fail
          refine (Bi.awake_any HB.out).mono ?_
          rintro e w' ⟨rfl, hb⟩
          replace HO := Bi.hr (HO.out.step hb)
          clear hb
          go_wp2_with fail
          go_ret
          exact ⟨rfl, HO.out.1⟩
    · have q0 : (brP zs == 0) = false := beq_eq_false_iff_ne.2 h0
      clear h0
      go_wp2_with fail
      refine (ints14_any _ _ _ (HSl.out.step HO.out.1) hn.out HZ.out).mono ?_
      rintro e W3 ⟨v3, rfl, h1, hb⟩
      have S3 := Bi.hr h1.sl
      replace HB := Bi.hr (HB.out.step hb)
      replace HO := Bi.hr (HO.out.step hb)
      clear h1 hb
      go_wp2_with fail
      refine (rbroken_any S3.out hn.out).mono ?_
      rintro e W4 ⟨rfl, hb⟩
      replace HB := Bi.hr (HB.out.step hb)
      replace HO := Bi.hr (HO.out.step hb)
      clear S3 hb
      go_wp2_with fail
      refine (rtl_any HB.out hLen.out (HS.out.step HO.out.1) (by omega)).mono ?_
      rintro e W5 ⟨rfl, hb⟩
      replace HB := Bi.hr (HB.out.step hb)
      replace HO := Bi.hr (HO.out.step hb)
      clear hb
      go_wp2_with fail
      refine (ints14_any _ _ _ (HSl.out.step HO.out.1) hn.out HZ.out).mono ?_
      rintro e W6 ⟨v6, rfl, h1, hb⟩
      have S6 := Bi.hr h1.sl
      replace HB := Bi.hr (HB.out.step hb)
      replace HO := Bi.hr (HO.out.step hb)
      clear h1 hb
      go_wp2_with fail
      refine (right14_any S6.out hn.out).mono ?_
      rintro e W7 ⟨rfl, hb⟩
      replace HB := Bi.hr (HB.out.step hb)
      replace HO := Bi.hr (HO.out.step hb)
      clear S6 hb
      go_wp2_with fail
      refine (Bi.awake_any HB.out).mono ?_
      rintro e w' ⟨rfl, hb⟩
      replace HO := Bi.hr (HO.out.step hb)
      clear hb
      go_wp2_with fail
      go_ret
      exact ⟨rfl, HO.out.1⟩

set_option maxRecDepth 100000 in
theorem lifted (os : Os) (started : os.Started) (H : Type) (enc : TypeId × Value → H) :
    ReturnsInHanded {} Try.checked os 3 .any (Rows.bidiBreaksSpec.pre6 enc Try.prog Try.f3 Rows.bidiBreaksRow.domain false) (Rows.bidiBreaksSpec.post enc Try.prog Try.f3 false true false false) := by
  refine returnsInHanded_of_change (C := Try.checked) own started (by kernel_rfl) Try.func3
    (ChangeSpec.witness6 (enc := enc) (C := Try.checked) false ⟨#[], #[.slice none 0 0], []⟩ 8 (by kernel_rfl) (by kernel_rfl) (by kernel_rfl) (by kernel_rfl)) ?_
  intro W base args ds gs before hval0 hW hcnd _
  have hval : ∀ (j : Nat) t v, Try.f3.params[j]? = some t → args[j]? = some v → Value.okWide Try.prog W .any base t v := hval0
  have hW' := hW
  obtain ⟨p, q, hA0, hV, rfl, hfz, hnd⟩ := hW
  have hA : DataW.TrodAll enc Try.prog W 0 (fun _ => true) true Try.f3.params.toList args.toList ds p := hA0
  rw [Try.params3] at hA hval
  obtain ⟨v0, vs0, d0, ds0, p0, q0, hargs, rfl, rfl, h0, r0⟩ := trodAll_cons hA
  obtain ⟨rfl, rfl, rfl⟩ := trodAll_nil r0
  obtain rfl : args = #[v0] := by cases args; simp_all
  obtain ⟨rfl, rfl⟩ := trodVars_none hV
  obtain ⟨a0, len0, cap0, rfl⟩ := okWide_slice Try.underlying22 (hval 0 22 v0 rfl rfl)
  have k0 := h0
  have lt0 : ∀ x ∈ p0, x.block < W.heap.size := by obtain ⟨m, hm⟩ := k0; exact DataW.trod_lt m _ _ _ hm
  obtain ⟨z0, w0⟩ : ∃ zs, IsRow .i32 W a0 len0 cap0 zs := by
    obtain ⟨fuel, hf⟩ := h0
    rcases open_ints Try.underlying22 Try.underlying21 (by kernel_rfl) hf with ⟨hcs, _⟩ | ⟨x, l, c, zs, hcs, _, hl, hm, hz, _, hcell, hwz⟩
    · simp [Value.cells] at hcs
      obtain ⟨rfl, rfl, rfl⟩ := hcs
      exact ⟨[], .inl ⟨rfl, rfl, rfl, rfl⟩⟩
    · simp [Value.cells] at hcs
      obtain ⟨rfl, rfl, rfl⟩ := hcs
      exact ⟨zs, .inr ⟨_, rfl, hl, hm, by simpa using hz, hcell, hwz⟩⟩
  clear hA0 hval0
  refine (walk a0 len0 cap0 z0 W w0).mono fun e W' ⟨he, bel⟩ => ?_
  subst he
  exact ⟨_, rfl, _, _, _, [], _, [], hW', trodAll_mk1 (shut_bool Try.underlying4 _), (trodAll_cons_mk (Below.trod laidOut (by kernel_rfl) (of_decide_eq_true (by kernel_rfl)) k0 bel lt0) trodAll_mk0), rfl, bel.frame _, fun h => by cases h⟩

theorem over : Rows.bidiBreaksRow.holds Try.pinned (OpenSpec.ofChange Rows.bidiBreaksSpec) :=
  OpenClaim.holds_of_wide 3 Try.f3 rfl rfl rfl rfl rfl rfl rfl ⟨rfl, rfl, rfl, rfl, rfl⟩ rfl rfl rfl rfl rfl (by kernel_rfl) Try.func3 (by kernel_rfl)
    (of_decide_eq_true (by kernel_rfl)) (by unfold Func.isWrapper; first | (rw [if_pos (by decide +kernel)]; kernel_rfl) | (rw [if_neg (by decide +kernel)]; exact ⟨rfl, rfl⟩))
    (fun os started H enc _ => lifted os started H enc)

end Go.Proofs.Ytemdmalcoemhnaa.bidiBreaks
namespace Go.Proofs.Ytemdmalcoemhnaa
theorem bidiBreaks_holds : Rows.BidiBreaksSaid := bidiBreaks.over
#print axioms bidiBreaks_holds
end Go.Proofs.Ytemdmalcoemhnaa
