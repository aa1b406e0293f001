/-
  For every slice l of runes, and each bidi, the law LabelMakes returns true, and l reads behind the call as it read before. No condition.
-/
import Derived.Test.YtkhipgcgcbhjoaaGreatRows
import Derived.Test.YtkhipgcgcbhjoaaGreatLa57
import Derived.WalkKit
import Derived.ProofKit
import Derived.OpenShut
import Derived.ShutString
import Derived.ChangeOld
import Derived.Below
namespace Go.Proofs.YtkhipgcgcbhjoaaGreat.labelMakes
open Go.ChangeShapes Go.WideShapes Go.ChangeAt Go.RowKit
open Go.ChangeMaps (open_string shut_string)
set_option linter.unusedVariables false

theorem own : ownKnob Tryz.prog.godebug = none := by kernel_rfl
theorem laidOut : laidOutB Tryz.prog = true := by kernel_rfl

/-- WHAT THE WALK IS TOLD OF A SLICE OF INTEGERS THAT CAME IN: it is nil; or it leads to a row of 'cap' cells, the numbers 'zs' (the first 'len' are its elements, the rest its spare room), each fitting its kind. -/
def IsRow (k : IntKind) (w : World) (a : Option Addr) (len cap : Nat) (zs : List Int) : Prop :=
  (a = none ∧ len = 0 ∧ cap = 0 ∧ zs = []) ∨
  ∃ x, a = some x ∧ len ≤ cap ∧ cap ≤ maxLen ∧ zs.length = cap ∧ (∀ i, i < zs.length → w.cell? (x.add i) = some (.int k (zs.getD i 0))) ∧ ∀ n ∈ zs, (Lit.int k n).wf = true

open Od Pr Nf La in
set_option maxHeartbeats 8000000 in
set_option maxRecDepth 100000 in
theorem walk (a0 : Option Addr) (len0 cap0 : Nat) (z0 : List Int) (a1 : Bool) (w : World) (w0 : IsRow .i32 w a0 len0 cap0 z0) :
    Calls Tryz.prog 5 #[.slice a0 len0 cap0, .bool a1] w fun e w' => e = .returned (.bool true) ∧ Below w.heap.size w w' := by
  obtain ⟨hlen, hS, hZ⟩ := Pu.row_sl w0
  have HZ : Hid (∀ y ∈ z0.take len0, Pr.I32 y) := fun y hy => ⟨(hZ y hy).1, (hZ y hy).2⟩
  have HSl : Hid (Sl .i32 w (.slice a0 len0 cap0) (z0.take len0)) := ⟨a0, cap0, by rw [hlen], hS⟩
  have hLen : Hid ((z0.take len0).length = len0) := hlen
  generalize z0.take len0 = zs at *
  clear w0 hS hZ hlen
  have HO := La.hr (Ok.start w)
  have HCk := La.hr (checker_any w)
  by_cases hl : 10 < len0
  · go_enter Tryz.func5, Tryz.ntmps5
    go_wp2_with fail
    refine HCk.out.mono ?_
    rintro e W1 ⟨c, b, f, j, g, p, d, u, s, rfl, hC, hb⟩
    have HC := La.hr hC
    replace HO := La.hr (HO.out.step hb)
    clear hb hC HCk
    go_wp2_with fail
    refine (awake16_any HC.out).mono ?_
    rintro e w' ⟨rfl, hb⟩
    replace HO := La.hr (HO.out.step hb)
    clear hb
    go_wp2_with fail
    go_ret
    exact ⟨rfl, HO.out.1⟩
  · have hn : Hid (zs.length ≤ 10) := by show _ ≤ _; have := hLen.out; omega
    have hl' : ¬ (10 : Int) < (len0 : Int) := by omega
    have HFr : Hid (toF zs a1 = 0 → frR (Oc.lowS (toS zs a1)) a1 = (0, zs) ∧ (toS zs a1).size ≤ 63) := fun h => ⟨from_to h (.inl (by have := hn.out; omega)), by
      obtain ⟨_, _, h2, h3⟩ := toF_zero h
      rw [h3]; exact h2⟩
    have HFa := La.hr (fun (W : World) (c b f j g p d u s : Nat) (hC : Ck W c b f j g p d u s) (hs : (toS zs a1).size ≤ 63) => from_any hC (toS zs a1) (by omega) a1)
    have HTo := La.hr (fun (W : World) (c b f j g p d u s : Nat) (hC : Ck W c b f j g p d u s) (hS : Sl .i32 W (.slice a0 len0 cap0) zs) => toold_any hC hS HZ.out (by have := hn.out; omega) a1)
    have HRt := La.hr (fun (W : World) (v : Value) (hS : Sn .i64 W v zs) => rtoold_any hS.sl (sn_some hS) HZ.out (by have := hn.out; omega) a1)
    clear hl
    generalize toF zs a1 = k at *
    generalize toS zs a1 = t at *
    go_enter Tryz.func5, Tryz.ntmps5
    go_wp2_with fail
    refine HCk.out.mono ?_
    rintro e W1 ⟨c, b, f, j, g, p, d, u, s, rfl, hC, hb⟩
    have HC := La.hr hC
    replace HO := La.hr (HO.out.step hb)
    clear hb hC HCk
    go_wp2_with fail
    refine (HTo.out _ _ _ _ _ _ _ _ _ _ HC.out (HSl.out.step HO.out.1)).mono ?_
    rintro e W2 ⟨rfl, hb⟩
    replace HC := La.hr (HC.out.step hb)
    replace HO := La.hr (HO.out.step hb)
    clear hb HTo
    go_wp2_with fail
    refine (ints16_any _ _ _ (HSl.out.step HO.out.1) (by have := hn.out; omega) (fun z hz => HZ.out z hz)).mono ?_
    rintro e W3 ⟨v3, rfl, h1, hb⟩
    have S3 := La.hr h1
    replace HC := La.hr (HC.out.step hb)
    replace HO := La.hr (HO.out.step hb)
    clear hb h1
    go_wp2_with fail
    refine (HRt.out _ _ S3.out).mono ?_
    rintro e W4 ⟨rfl, hb⟩
    replace HC := La.hr (HC.out.step hb)
    replace HO := La.hr (HO.out.step hb)
    clear hb HRt S3
    by_cases hk : k = 0
    · subst hk
      obtain ⟨h1, h2⟩ := HFr.out rfl
      have HF2 := La.hr (fun (W : World) (c b f j g p d u s : Nat) (hC : Ck W c b f j g p d u s) => HFa.out W c b f j g p d u s hC h2)
      rw [h1] at HF2
      clear h1 h2 HFa HFr
      go_wp2_with fail
      refine (HF2.out _ _ _ _ _ _ _ _ _ _ HC.out).mono ?_
      rintro e W5 ⟨v5, rfl, hS, hb⟩
      have S5 := La.hr hS
      replace HC := La.hr (HC.out.step hb)
      replace HO := La.hr (HO.out.step hb)
      clear hb hS HF2
      go_wp2_with fail
      refine (ints16_any _ _ _ S5.out (by show zs.length ≤ _; have := hn.out; omega) (fun z hz => HZ.out z hz)).mono ?_
      rintro e W6 ⟨v6, rfl, h1, hb⟩
      have S6 := La.hr h1.sl
      replace HC := La.hr (HC.out.step hb)
      replace HO := La.hr (HO.out.step hb)
      clear hb h1 S5
      go_wp2_with fail
      refine (ints16_any _ _ _ (HSl.out.step HO.out.1) (by have := hn.out; omega) (fun z hz => HZ.out z hz)).mono ?_
      rintro e W7 ⟨v7, rfl, h1, hb⟩
      have S7 := La.hr h1.sl
      replace S6 := La.hr (S6.out.step hb)
      replace HC := La.hr (HC.out.step hb)
      replace HO := La.hr (HO.out.step hb)
      clear hb h1
      go_wp2_with fail
      refine (same_any _ _ _ _ _ S6.out S7.out (by show zs.length ≤ _; have := hn.out; omega)).mono ?_
      rintro e W8 ⟨rfl, hb⟩
      replace HC := La.hr (HC.out.step hb)
      replace HO := La.hr (HO.out.step hb)
      clear hb S6 S7
      rw [decide_eq_true rfl]
      go_wp2_with fail
      refine (awake16_any HC.out).mono ?_
      rintro e w' ⟨rfl, hb⟩
      replace HO := La.hr (HO.out.step hb)
      clear hb
      go_wp2_with fail
      go_ret
      exact ⟨rfl, HO.out.1⟩
    · have q1 : (k != 0) = true := by simpa using hk
      clear hk
      go_wp2_with fail
      refine (awake16_any HC.out).mono ?_
      rintro e w' ⟨rfl, hb⟩
      replace HO := La.hr (HO.out.step hb)
      clear hb
      go_wp2_with fail
      go_ret
      exact ⟨rfl, HO.out.1⟩

set_option maxRecDepth 100000 in
theorem lifted (os : Os) (started : os.Started) (H : Type) (enc : TypeId × Value → H) :
    ReturnsInHanded {} Tryz.checked os 5 .any (Rows.labelMakesSpec.pre6 enc Tryz.prog Tryz.f5 Rows.labelMakesRow.domain false) (Rows.labelMakesSpec.post enc Tryz.prog Tryz.f5 false true false false) := by
  refine returnsInHanded_of_change (C := Tryz.checked) own started (by kernel_rfl) Tryz.func5
    (ChangeSpec.witness6 (enc := enc) (C := Tryz.checked) false ⟨#[], #[.slice none 0 0, .bool false], []⟩ 8 (by kernel_rfl) (by kernel_rfl) (by kernel_rfl) (by kernel_rfl)) ?_
  intro W base args ds gs before hval0 hW hcnd _
  have hval : ∀ (j : Nat) t v, Tryz.f5.params[j]? = some t → args[j]? = some v → Value.okWide Tryz.prog W .any base t v := hval0
  have hW' := hW
  obtain ⟨p, q, hA0, hV, rfl, hfz, hnd⟩ := hW
  have hA : DataW.TrodAll enc Tryz.prog W 0 (fun _ => true) true Tryz.f5.params.toList args.toList ds p := hA0
  rw [Tryz.params5] at hA hval
  obtain ⟨v0, vs0, d0, ds0, p0, q0, hargs, rfl, rfl, h0, r0⟩ := trodAll_cons hA
  obtain ⟨v1, vs1, d1, ds1, p1, q1, rfl, rfl, rfl, h1, r1⟩ := trodAll_cons r0
  obtain ⟨rfl, rfl, rfl⟩ := trodAll_nil r1
  obtain rfl : args = #[v0, v1] := by cases args; simp_all
  obtain ⟨rfl, rfl⟩ := trodVars_none hV
  obtain ⟨a0, len0, cap0, rfl⟩ := okWide_slice Tryz.underlying22 (hval 0 22 v0 rfl rfl)
  have k0 := h0
  have lt0 : ∀ x ∈ p0, x.block < W.heap.size := by obtain ⟨m, hm⟩ := k0; exact DataW.trod_lt m _ _ _ hm
  obtain ⟨z0, w0⟩ : ∃ zs, IsRow .i32 W a0 len0 cap0 zs := by
    obtain ⟨fuel, hf⟩ := h0
    rcases open_ints Tryz.underlying22 Tryz.underlying21 (by kernel_rfl) hf with ⟨hcs, _⟩ | ⟨x, l, c, zs, hcs, _, hl, hm, hz, _, hcell, hwz⟩
    · simp [Value.cells] at hcs
      obtain ⟨rfl, rfl, rfl⟩ := hcs
      exact ⟨[], .inl ⟨rfl, rfl, rfl, rfl⟩⟩
    · simp [Value.cells] at hcs
      obtain ⟨rfl, rfl, rfl⟩ := hcs
      exact ⟨zs, .inr ⟨_, rfl, hl, hm, by simpa using hz, hcell, hwz⟩⟩
  obtain ⟨a1, rfl, rfl, rfl⟩ := open_bool Tryz.underlying4 (hval 1 4 v1 rfl rfl) h1
  clear hA0 hval0
  refine (walk a0 len0 cap0 z0 a1 W w0).mono fun e W' ⟨he, bel⟩ => ?_
  subst he
  exact ⟨_, rfl, _, _, _, [], _, [], hW', trodAll_mk1 (shut_bool Tryz.underlying4 _), (trodAll_cons_mk (Below.trod laidOut (by kernel_rfl) (of_decide_eq_true (by kernel_rfl)) k0 bel lt0) (trodAll_cons_mk (shut_bool Tryz.underlying4 _) trodAll_mk0)), rfl, bel.frame _, fun h => by cases h⟩

theorem over : Rows.labelMakesRow.holds Tryz.pinned (OpenSpec.ofChange Rows.labelMakesSpec) :=
  OpenClaim.holds_of_wide 5 Tryz.f5 rfl rfl rfl rfl rfl rfl rfl ⟨rfl, rfl, rfl, rfl, rfl⟩ rfl rfl rfl rfl rfl (by kernel_rfl) Tryz.func5 (by kernel_rfl)
    (of_decide_eq_true (by kernel_rfl)) (by unfold Func.isWrapper; first | (rw [if_pos (by decide +kernel)]; kernel_rfl) | (rw [if_neg (by decide +kernel)]; exact ⟨rfl, rfl⟩))
    (fun os started H enc _ => lifted os started H enc)

end Go.Proofs.YtkhipgcgcbhjoaaGreat.labelMakes
namespace Go.Proofs.YtkhipgcgcbhjoaaGreat
theorem labelMakes_holds : Rows.LabelMakesSaid := labelMakes.over
#print axioms labelMakes_holds
end Go.Proofs.YtkhipgcgcbhjoaaGreat
