/-
  For every slice l of runes and every n the law BidiMarks returns true, and l reads behind the call as it read before. No condition.
-/
import Derived.Test.YtemdmalcoemhnaaRows
import Derived.Test.YtemdmalcoemhnaaBid1x7
import Derived.Test.YtemdmalcoemhnaaAp1
import Derived.WalkKit
import Derived.ProofKit
import Derived.OpenShut
import Derived.ShutString
import Derived.ChangeOld
import Derived.Below
namespace Go.Proofs.Ytemdmalcoemhnaa.bidiMarks
open Go.ChangeShapes Go.WideShapes Go.ChangeAt Go.RowKit
open Go.ChangeMaps (open_string shut_string)
set_option linter.unusedVariables false

theorem own : ownKnob Try.prog.godebug = none := by kernel_rfl
theorem laidOut : laidOutB Try.prog = true := by kernel_rfl

/-- WHAT THE WALK IS TOLD OF A SLICE OF INTEGERS THAT CAME IN: it is nil; or it leads to a row of 'cap' cells, the numbers 'zs' (the first 'len' are its elements, the rest its spare room), each fitting its kind. -/
def IsRow (k : IntKind) (w : World) (a : Option Addr) (len cap : Nat) (zs : List Int) : Prop :=
  (a = none ∧ len = 0 ∧ cap = 0 ∧ zs = []) ∨
  ∃ x, a = some x ∧ len ≤ cap ∧ cap ≤ maxLen ∧ zs.length = cap ∧ (∀ i, i < zs.length → w.cell? (x.add i) = some (.int k (zs.getD i 0))) ∧ ∀ n ∈ zs, (Lit.int k n).wf = true

open Od Bi in
set_option maxHeartbeats 8000000 in
set_option maxRecDepth 100000 in
theorem walk (a0 : Option Addr) (len0 cap0 : Nat) (z0 : List Int) (a1 : Int) (w : World) (w0 : IsRow .i32 w a0 len0 cap0 z0) (w1 : (Lit.int .u8 a1).wf = true) :
    Calls Try.prog 5 #[.slice a0 len0 cap0, .int .u8 a1] w fun e w' => e = .returned (.bool true) ∧ Below w.heap.size w w' := by
  obtain ⟨hlen, hS, hZ⟩ := row_sl w0
  have HS : Hid (SlP .i32 w a0 cap0 (z0.take len0)) := hS
  have HSl : Hid (Sl .i32 w (.slice a0 len0 cap0) (z0.take len0)) := ⟨a0, cap0, by rw [hlen], hS⟩
  have hLen : Hid ((z0.take len0).length = len0) := hlen
  generalize z0.take len0 = zs at *
  clear w0 hS hZ hlen
  have HO := Bi.hr (Ok.start w)
  clear w1
  go_enter Try.func5, Try.ntmps5
  go_wp2_with fail
  refine (newbook_any _).mono ?_
  rintro e W1 ⟨b, rfl, hb, hB⟩
  have HB := Bi.hr hB
  replace HO := Bi.hr (HO.out.step hb)
  clear hb hB
  by_cases hl : 30 < len0
  · go_wp2_with fail
    refine (Bi.awake_any HB.out).mono ?_
    rintro e w' ⟨rfl, hb⟩
    replace HO := Bi.hr (HO.out.step hb)
    clear hb
    go_wp2_with fail
    go_ret
    exact ⟨rfl, HO.out.1⟩
  by_cases h0 : len0 = 0
  · have q0 : ((len0 : Int) == 0) = true := beq_iff_eq.2 (by omega)
    go_wp2_with fail
    refine (Bi.awake_any HB.out).mono ?_
    rintro e w' ⟨rfl, hb⟩
    replace HO := Bi.hr (HO.out.step hb)
    clear hb
    go_wp2_with fail
    go_ret
    exact ⟨rfl, HO.out.1⟩
  have q0 : ((len0 : Int) == 0) = false := beq_eq_false_iff_ne.2 (by omega)
  have HX : Hid (zs ≠ []) := fun e => by
    have := hLen.out
    rw [e] at this
    exact h0 this.symm
  have hsum : (List.length ([] : List Int)) + zs.length ≤ 1000000000 := by have := hLen.out; simp; omega
  have HOwn : Hid ((W1.alloc (.cells #[] 21)).ownsRow W1.heap.size 21 1 (.slice (some ⟨W1.heap.size, 0, none⟩) 0 0) (List.length ([] : List Int)) (ivs .i32 [])) := World.ownsRow_made W1 #[] 0 (Nat.le_refl _) (by unfold maxLen; omega) rfl
  go_wp2_with (at_builtin; refine Ap.app32 rfl (.tmp 20) (.tmp 21) rfl (W1.alloc (.cells #[] 21)) W1.heap.size _ _ [] zs rfl rfl HOwn.out (HSl.out.step HO.out.alloc.1) hsum (by simp) (fun v' w' h1 h2 _ => ?_); have H2 : Hid (w'.ownsRow W1.heap.size 21 1 v' (zs ++ List.replicate 0 769).length (ivs .i32 (zs ++ List.replicate 0 769)) ∧ Ok W1.heap.size W1 w') := ⟨by simpa using h1, ok_below h2 (Ok.start W1).alloc⟩; clear h1 h2)
  have ht : Hid ((wrap64 a1).tmod 6 < 6) := Int.tmod_lt_of_pos _ (by decide)
  generalize (wrap64 a1).tmod 6 = t at *
  go_loopg [6, 26] 6 (fun gg vo vi wr => ∃ k : Nat, vi = .int .i64 k ∧ k ≤ 6 ∧ gg = 6 - k ∧ Hid (wr.ownsRow W1.heap.size 21 1 vo (zs ++ List.replicate k 769).length (ivs .i32 (zs ++ List.replicate k 769)) ∧ Ok W1.heap.size W1 wr))
  case atStart => exact ⟨0, rfl, Nat.zero_le _, rfl, H2.out⟩
  case round =>
    obtain ⟨k, rfl, hk, hg, H⟩ := hrel
    have HG := Bi.hr hg
    clear hg H2
    by_cases hlt : (k : Int) < t
    · have hk6 : k < 6 := by have := ht.out; omega
      have hle : (zs ++ List.replicate k (769 : Int)).length ≤ 1000000000 := by have := hLen.out; rw [List.length_append, List.length_replicate]; omega
      have HE : Hid (∀ A : List Int, A ++ List.replicate (k + 1) 769 = (A ++ List.replicate k 769) ++ [769]) := fun A => by rw [List.replicate_succ', List.append_assoc]
      go_wp2_with (at_builtin; refine app_i32 rfl (.tmp 28) (.tmp 29) rfl wr W1.heap.size _ _ _ 769 rfl wr.heap.size rfl rfl H.out.1 hle H.out.2.2 (fun v' w' h1 h2 => ?_))
      have H3 : Hid (w'.ownsRow W1.heap.size 21 1 v' (zs ++ List.replicate (k + 1) 769).length (ivs .i32 (zs ++ List.replicate (k + 1) 769)) ∧ Ok W1.heap.size W1 w') := ⟨by rw [HE.out, ivs_snoc, List.length_append]; exact h1, ok_below h2 H.out.2⟩
      clear h1 h2
      go_roundg (6 - (k + 1))
      case measure => rw [HG.out]; omega
      case rel => exact ⟨k + 1, by go_num, by omega, rfl, H3.out⟩
    · have HM := Bi.hr (marks_P zs k HX.out)
      have hle : (zs ++ List.replicate k (769 : Int)).length ≤ 1000000 := by have := hLen.out; rw [List.length_append, List.length_replicate]; omega
      obtain ⟨ao, cap, hvo, hSo⟩ := own_sl (k := .i32) H.out.1
      have HSo := Bi.hr hSo
      have HB1 := Bi.hr (fun (W : World) (h : Below W1.heap.size W1 W) => HB.out.step h)
      have HK := Bi.hr H.out.2
      clear H HG hSo
      generalize zs ++ List.replicate k (769 : Int) = ys at *
      subst hvo
      go_wp2_with fail
      refine (broken_any (HB1.out _ HK.out.1) rfl HSo.out hle).mono ?_
      rintro e W3 ⟨rfl, hb⟩
      replace HSo := Bi.hr (HSo.out.step hb)
      replace HK := Bi.hr (HK.out.step hb)
      clear hb
      go_wp2_with fail
      refine (broken_any (HB1.out _ HK.out.1) hLen.out (HS.out.step (HO.out.step HK.out.1).1) (by omega)).mono ?_
      rintro e W4 ⟨rfl, hb⟩
      replace HSo := Bi.hr (HSo.out.step hb)
      replace HK := Bi.hr (HK.out.step hb)
      clear hb
      rw [HM.out.1]
      go_wp2_with fail
      refine (rtl_any (HB1.out _ HK.out.1) rfl HSo.out hle).mono ?_
      rintro e W5 ⟨rfl, hb⟩
      replace HSo := Bi.hr (HSo.out.step hb)
      replace HK := Bi.hr (HK.out.step hb)
      clear hb
      go_wp2_with fail
      refine (rtl_any (HB1.out _ HK.out.1) hLen.out (HS.out.step (HO.out.step HK.out.1).1) (by omega)).mono ?_
      rintro e W6 ⟨rfl, hb⟩
      replace HK := Bi.hr (HK.out.step hb)
      clear hb
      rw [HM.out.2]
      go_wp2_with fail
      refine (Bi.awake_any (HB1.out _ HK.out.1)).mono ?_
      rintro e w' ⟨rfl, hb⟩
      replace HK := Bi.hr (HK.out.step hb)
      clear hb
      go_wp2_with fail
      go_ret
      exact ⟨rfl, (HO.out.step HK.out.1).1⟩

set_option maxRecDepth 100000 in
theorem lifted (os : Os) (started : os.Started) (H : Type) (enc : TypeId × Value → H) :
    ReturnsInHanded {} Try.checked os 5 .any (Rows.bidiMarksSpec.pre6 enc Try.prog Try.f5 Rows.bidiMarksRow.domain false) (Rows.bidiMarksSpec.post enc Try.prog Try.f5 false true false false) := by
  refine returnsInHanded_of_change (C := Try.checked) own started (by kernel_rfl) Try.func5
    (ChangeSpec.witness6 (enc := enc) (C := Try.checked) false ⟨#[], #[.slice none 0 0, .int .u8 0], []⟩ 8 (by kernel_rfl) (by kernel_rfl) (by kernel_rfl) (by kernel_rfl)) ?_
  intro W base args ds gs before hval0 hW hcnd _
  have hval : ∀ (j : Nat) t v, Try.f5.params[j]? = some t → args[j]? = some v → Value.okWide Try.prog W .any base t v := hval0
  have hW' := hW
  obtain ⟨p, q, hA0, hV, rfl, hfz, hnd⟩ := hW
  have hA : DataW.TrodAll enc Try.prog W 0 (fun _ => true) true Try.f5.params.toList args.toList ds p := hA0
  rw [Try.params5] at hA hval
  obtain ⟨v0, vs0, d0, ds0, p0, q0, hargs, rfl, rfl, h0, r0⟩ := trodAll_cons hA
  obtain ⟨v1, vs1, d1, ds1, p1, q1, rfl, rfl, rfl, h1, r1⟩ := trodAll_cons r0
  obtain ⟨rfl, rfl, rfl⟩ := trodAll_nil r1
  obtain rfl : args = #[v0, v1] := by cases args; simp_all
  obtain ⟨rfl, rfl⟩ := trodVars_none hV
  obtain ⟨a0, len0, cap0, rfl⟩ := okWide_slice Try.underlying22 (hval 0 22 v0 rfl rfl)
  have k0 := h0
  have lt0 : ∀ x ∈ p0, x.block < W.heap.size := by obtain ⟨m, hm⟩ := k0; exact DataW.trod_lt m _ _ _ hm
  obtain ⟨z0, w0⟩ : ∃ zs, IsRow .i32 W a0 len0 cap0 zs := by
    obtain ⟨fuel, hf⟩ := h0
    rcases open_ints Try.underlying22 Try.underlying21 (by kernel_rfl) hf with ⟨hcs, _⟩ | ⟨x, l, c, zs, hcs, _, hl, hm, hz, _, hcell, hwz⟩
    · simp [Value.cells] at hcs
      obtain ⟨rfl, rfl, rfl⟩ := hcs
      exact ⟨[], .inl ⟨rfl, rfl, rfl, rfl⟩⟩
    · simp [Value.cells] at hcs
      obtain ⟨rfl, rfl, rfl⟩ := hcs
      exact ⟨zs, .inr ⟨_, rfl, hl, hm, by simpa using hz, hcell, hwz⟩⟩
  obtain ⟨a1, rfl, rfl, rfl, w1⟩ := open_int Try.underlying5 (hval 1 5 v1 rfl rfl) h1
  clear hA0 hval0
  refine (walk a0 len0 cap0 z0 a1 W w0 w1).mono fun e W' ⟨he, bel⟩ => ?_
  subst he
  exact ⟨_, rfl, _, _, _, [], _, [], hW', trodAll_mk1 (shut_bool Try.underlying4 _), (trodAll_cons_mk (Below.trod laidOut (by kernel_rfl) (of_decide_eq_true (by kernel_rfl)) k0 bel lt0) (trodAll_cons_mk (shut_int Try.underlying5 w1) trodAll_mk0)), rfl, bel.frame _, fun h => by cases h⟩

theorem over : Rows.bidiMarksRow.holds Try.pinned (OpenSpec.ofChange Rows.bidiMarksSpec) :=
  OpenClaim.holds_of_wide 5 Try.f5 rfl rfl rfl rfl rfl rfl rfl ⟨rfl, rfl, rfl, rfl, rfl⟩ rfl rfl rfl rfl rfl (by kernel_rfl) Try.func5 (by kernel_rfl)
    (of_decide_eq_true (by kernel_rfl)) (by unfold Func.isWrapper; first | (rw [if_pos (by decide +kernel)]; kernel_rfl) | (rw [if_neg (by decide +kernel)]; exact ⟨rfl, rfl⟩))
    (fun os started H enc _ => lifted os started H enc)

end Go.Proofs.Ytemdmalcoemhnaa.bidiMarks
namespace Go.Proofs.Ytemdmalcoemhnaa
theorem bidiMarks_holds : Rows.BidiMarksSaid := bidiMarks.over
#print axioms bidiMarks_holds
end Go.Proofs.Ytemdmalcoemhnaa
