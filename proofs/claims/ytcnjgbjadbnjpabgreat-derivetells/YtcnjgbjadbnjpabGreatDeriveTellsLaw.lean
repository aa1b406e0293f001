/-
  For every slice l of runes the law DeriveTells returns true, and l reads behind the call as it read before. No condition.
-/
import Derived.Test.YtcnjgbjadbnjpabGreatRows
import Derived.Test.YtcnjgbjadbnjpabGreatDer1x3
import Derived.WalkKit
import Derived.ProofKit
import Derived.OpenShut
import Derived.ShutString
import Derived.ChangeOld
import Derived.Below
namespace Go.Proofs.YtcnjgbjadbnjpabGreat.deriveTells
open Go.ChangeShapes Go.WideShapes Go.ChangeAt Go.RowKit
open Go.ChangeMaps (open_string shut_string)
set_option linter.unusedVariables false

theorem own : ownKnob Tryz.prog.godebug = none := by kernel_rfl
theorem laidOut : laidOutB Tryz.prog = true := by kernel_rfl

/-- WHAT THE WALK IS TOLD OF A SLICE OF INTEGERS THAT CAME IN: it is nil; or it leads to a row of 'cap' cells, the numbers 'zs' (the first 'len' are its elements, the rest its spare room), each fitting its kind. -/
def IsRow (k : IntKind) (w : World) (a : Option Addr) (len cap : Nat) (zs : List Int) : Prop :=
  (a = none ∧ len = 0 ∧ cap = 0 ∧ zs = []) ∨
  ∃ x, a = some x ∧ len ≤ cap ∧ cap ≤ maxLen ∧ zs.length = cap ∧ (∀ i, i < zs.length → w.cell? (x.add i) = some (.int k (zs.getD i 0))) ∧ ∀ n ∈ zs, (Lit.int k n).wf = true

open Od De in
set_option maxHeartbeats 8000000 in
set_option maxRecDepth 100000 in
theorem walk (a0 : Option Addr) (len0 cap0 : Nat) (z0 : List Int) (w : World) (w0 : IsRow .i32 w a0 len0 cap0 z0) :
    Calls Tryz.prog 3 #[.slice a0 len0 cap0] w fun e w' => e = .returned (.bool true) ∧ Below w.heap.size w w' := by
  obtain ⟨hlen, hS, hZ⟩ := row_sl w0
  have HZ : Hid (∀ y ∈ z0.take len0, Pr.I32 y) := fun y hy => ⟨(hZ y hy).1, (hZ y hy).2⟩
  have HS : Hid (SlP .i32 w a0 cap0 (z0.take len0)) := hS
  have HSl : Hid (Sl .i32 w (.slice a0 len0 cap0) (z0.take len0)) := ⟨a0, cap0, by rw [hlen], hS⟩
  have hLen : Hid ((z0.take len0).length = len0) := hlen
  generalize z0.take len0 = zs at *
  clear w0 hS hZ hlen
  have HO := De.hd (Ok.start w)
  go_enter Tryz.func3, Tryz.ntmps3
  go_wp2_with fail
  refine (judge_any _).mono ?_
  rintro e W0 ⟨j, b, f, p, d, u, s, rfl, hJ, hb⟩
  have HJ := De.hd hJ
  replace HO := De.hd (HO.out.step hb)
  clear hJ hb
  by_cases hl : 20 < len0
  · go_wp2_with fail
    refine (awake12_any HJ.out).mono ?_
    rintro e w' ⟨rfl, hb⟩
    replace HO := De.hd (HO.out.step hb)
    clear hb
    go_wp2_with fail
    go_ret
    exact ⟨rfl, HO.out.1⟩
  · go_wp2_with fail
    refine (Pr.new_any _).mono ?_
    rintro e W2 ⟨p2, d2, uq, s2, rfl, hP, hb⟩
    replace HJ := De.hd (HJ.out.step hb)
    replace HO := De.hd (HO.out.step hb)
    clear hb hP
    go_wp2_with fail
    refine (jnil1_any _ _).mono ?_
    rintro e W3 ⟨rfl, rfl⟩
    go_wp2_with fail
    refine (newbook_any _).mono ?_
    rintro e W4 ⟨b2, rfl, hb, hB⟩
    replace HJ := De.hd (HJ.out.step hb)
    replace HO := De.hd (HO.out.step hb)
    clear hb hB
    go_wp2_with fail
    refine (jnil2_any _ _).mono ?_
    rintro e W5 ⟨rfl, rfl⟩
    go_wp2_with fail
    go_loopg [4, 30] len0 (fun gg vf vi wr => ∃ (k : Nat) (z : Int), vi = .int .i64 k ∧ vf = .int .i64 z ∧ k ≤ len0 ∧ gg = len0 - k ∧ -1 ≤ z ∧ z ≤ 1000000 ∧ Hid (((z = -1 ∧ frP 0 zs = frP k (zs.drop k)) ∨ (0 ≤ z ∧ frP 0 zs = z)) ∧ Ok w.heap.size w wr ∧ Jd wr j b f p d u s))
    case atStart => exact ⟨0, -1, rfl, rfl, Nat.zero_le _, rfl, by omega, by omega, .inl ⟨rfl, rfl⟩, HO.out, HJ.out⟩
    case round =>
      obtain ⟨k, z, rfl, rfl, hk, hg, hz1, hz2, H⟩ := hrel
      have HG := De.hd hg
      clear hg HO HJ
      by_cases hlt : k < len0
      · have hlx : k < zs.length := by rw [hLen.out]; exact hlt
        obtain ⟨bb, off, rfl, hb, c1⟩ := HS.out.at_ k hlx
        have d1 := (H.out.2.1.1.cell (p := ⟨bb, off + k, none⟩) hb).trans c1
        have hI := HZ.out zs[k] (List.getElem_mem hlx)
        have HE : Hid (frP k (zs.drop k) = if 4 ≤ ofP zs[k] then (k : Int) else frP (k + 1) (zs.drop (k + 1))) := by
          show _ = _
          rw [List.drop_eq_getElem_cons hlx]; rfl
        clear c1
        generalize zs[k] = x at *
        have hwx : IntKind.i64.wrap x = x := by rw [IntKind.wrap_i64]; have := hI.1; have := hI.2; omega
        have HRo := De.hd (fun (W : World) => rof_any x hI W)
        have HPo := De.hd (fun (W : World) (h : Jd W j b f p d u s) => of_any h x hI)
        have HRu := De.hd (fun (W : World) => runs_any' x hI W)
        have HPu := De.hd (fun (W : World) (h : Jd W j b f p d u s) => uns_any h x hI)
        have HRe := De.hd (fun (W : World) => rexc_any x W)
        have HPe := De.hd (fun (W : World) => exc_any x W)
        generalize ofP x = y at *
        generalize unB x = un at *
        generalize exP x = ex at *
        have HZ0 := De.hd H.out.1
        replace H := De.hd H.out.2
        have z1 : (k : Int) < (len0 : Int) := by omega
        go_wp2_with fail
        refine (HRo.out _).mono ?_
        rintro e W6 ⟨rfl, hb2⟩
        replace H := De.hd (⟨H.out.1.step hb2, H.out.2.step hb2⟩ : Ok w.heap.size w W6 ∧ Jd W6 j b f p d u s)
        clear hb2
        go_wp2_with fail
        refine (HPo.out _ H.out.2).mono ?_
        rintro e W6 ⟨rfl, hb2⟩
        replace H := De.hd (⟨H.out.1.step hb2, H.out.2.step hb2⟩ : Ok w.heap.size w W6 ∧ Jd W6 j b f p d u s)
        clear hb2
        go_wp2_with fail
        refine (HPu.out _ H.out.2).mono ?_
        rintro e W6 ⟨rfl, hb2⟩
        replace H := De.hd (⟨H.out.1.step hb2, H.out.2.step hb2⟩ : Ok w.heap.size w W6 ∧ Jd W6 j b f p d u s)
        clear hb2
        go_wp2_with fail
        refine (HRu.out _).mono ?_
        rintro e W6 ⟨rfl, hb2⟩
        replace H := De.hd (⟨H.out.1.step hb2, H.out.2.step hb2⟩ : Ok w.heap.size w W6 ∧ Jd W6 j b f p d u s)
        clear hb2
        cases un
        · go_wp2_with fail
          refine (HPe.out _).mono ?_
          rintro e W7 ⟨rfl, rfl⟩
          go_wp2_with fail
          refine (HRe.out _).mono ?_
          rintro e W6 ⟨rfl, hb2⟩
          replace H := De.hd (⟨H.out.1.step hb2, H.out.2.step hb2⟩ : Ok w.heap.size w W6 ∧ Jd W6 j b f p d u s)
          clear hb2
          by_cases hzz : z < 0
          · by_cases hy : 4 ≤ y
            · have HN : Hid (frP 0 zs = (k : Int)) := by
                show _ = _
                rcases HZ0.out with ⟨h1, h2⟩ | ⟨h1, h2⟩
                · rw [h2, HE.out, if_pos hy]
                · omega
              go_wp2_with fail
              go_roundg (len0 - (k + 1))
              case measure => rw [HG.out]; omega
              case rel => exact ⟨k + 1, k, by go_num, rfl, by omega, rfl, by omega, by omega, .inr ⟨by omega, HN.out⟩, H.out.1, H.out.2⟩
            · have HN : Hid (frP 0 zs = frP (k + 1) (zs.drop (k + 1))) := by
                show _ = _
                rcases HZ0.out with ⟨h1, h2⟩ | ⟨h1, h2⟩
                · rw [h2, HE.out, if_neg hy]
                · omega
              go_wp2_with fail
              go_roundg (len0 - (k + 1))
              case measure => rw [HG.out]; omega
              case rel => exact ⟨k + 1, z, by go_num, rfl, by omega, rfl, by omega, by omega, .inl ⟨by omega, HN.out⟩, H.out.1, H.out.2⟩
          · have HN : Hid (frP 0 zs = z) := by
              show _ = _
              rcases HZ0.out with ⟨h1, h2⟩ | ⟨h1, h2⟩
              · omega
              · exact h2
            go_wp2_with fail
            go_roundg (len0 - (k + 1))
            case measure => rw [HG.out]; omega
            case rel => exact ⟨k + 1, z, by go_num, rfl, by omega, rfl, by omega, by omega, .inr ⟨by omega, HN.out⟩, H.out.1, H.out.2⟩
        · go_wp2_with fail
          refine (HPe.out _).mono ?_
          rintro e W7 ⟨rfl, rfl⟩
          go_wp2_with fail
          refine (HRe.out _).mono ?_
          rintro e W6 ⟨rfl, hb2⟩
          replace H := De.hd (⟨H.out.1.step hb2, H.out.2.step hb2⟩ : Ok w.heap.size w W6 ∧ Jd W6 j b f p d u s)
          clear hb2
          by_cases hzz : z < 0
          · by_cases hy : 4 ≤ y
            · have HN : Hid (frP 0 zs = (k : Int)) := by
                show _ = _
                rcases HZ0.out with ⟨h1, h2⟩ | ⟨h1, h2⟩
                · rw [h2, HE.out, if_pos hy]
                · omega
              go_wp2_with fail
              go_roundg (len0 - (k + 1))
              case measure => rw [HG.out]; omega
              case rel => exact ⟨k + 1, k, by go_num, rfl, by omega, rfl, by omega, by omega, .inr ⟨by omega, HN.out⟩, H.out.1, H.out.2⟩
            · have HN : Hid (frP 0 zs = frP (k + 1) (zs.drop (k + 1))) := by
                show _ = _
                rcases HZ0.out with ⟨h1, h2⟩ | ⟨h1, h2⟩
                · rw [h2, HE.out, if_neg hy]
                · omega
              go_wp2_with fail
              go_roundg (len0 - (k + 1))
              case measure => rw [HG.out]; omega
              case rel => exact ⟨k + 1, z, by go_num, rfl, by omega, rfl, by omega, by omega, .inl ⟨by omega, HN.out⟩, H.out.1, H.out.2⟩
          · have HN : Hid (frP 0 zs = z) := by
              show _ = _
              rcases HZ0.out with ⟨h1, h2⟩ | ⟨h1, h2⟩
              · omega
              · exact h2
            go_wp2_with fail
            go_roundg (len0 - (k + 1))
            case measure => rw [HG.out]; omega
            case rel => exact ⟨k + 1, z, by go_num, rfl, by omega, rfl, by omega, by omega, .inr ⟨by omega, HN.out⟩, H.out.1, H.out.2⟩
      · have z1 : ¬ (k : Int) < (len0 : Int) := by omega
        have HF : Hid (frP 0 zs = z) := by
          show _ = _
          rcases H.out.1 with ⟨h1, h2⟩ | ⟨h1, h2⟩
          · rw [h2, List.drop_eq_nil_of_le (by rw [hLen.out]; omega), h1]; rfl
          · exact h2
        have HFi := De.hd (first_any H.out.2.2 (HSl.out.step H.out.2.1.1) HZ.out (by have := hLen.out; omega))
        rw [HF.out] at HFi
        have HO := De.hd H.out.2.1
        have HJ := De.hd H.out.2.2
        clear H HG HF
        by_cases hzz : z < 0
        · have hfv : fiV z = .tuple #[.int .i64 0, .bool false] := by unfold fiV; rw [if_pos hzz, decide_eq_false (by omega)]
          rw [hfv] at HFi
          have hz4 : ¬ 0 ≤ z := by omega
          have hz5 : z ≤ 0 := by omega
          have hmx : max z 0 = 0 := Int.max_eq_right hz5
          have hd0 : decide (0 ≤ z) = false := decide_eq_false hz4
          clear hfv hz1 hz2 hk hlt
          go_wp2_with fail
          refine HFi.out.mono ?_
          rintro e W6 ⟨rfl, hb⟩
          replace HJ := De.hd (HJ.out.step hb)
          replace HO := De.hd (HO.out.step hb)
          clear hb z1
          go_wp2_with fail
          refine (awake12_any HJ.out).mono ?_
          rintro e w' ⟨rfl, hb⟩
          replace HO := De.hd (HO.out.step hb)
          clear hb
          go_wp2_with fail
          go_ret
          exact ⟨by first | rfl | (simp [hd0]; done) | (show Ending.returned (.bool (!decide (0 ≤ z))) = _; rw [hd0]; rfl), HO.out.1⟩
        · have hfv : fiV z = .tuple #[.int .i64 z, .bool true] := by unfold fiV; rw [if_neg hzz, decide_eq_true (by omega)]
          rw [hfv] at HFi
          clear hfv
          have hz4 : 0 ≤ z := by omega
          have hmx : max z 0 = z := Int.max_eq_left hz4
          clear hz1 hz2 hzz hk hlt
          go_wp2_with fail
          refine HFi.out.mono ?_
          rintro e W6 ⟨rfl, hb⟩
          replace HJ := De.hd (HJ.out.step hb)
          replace HO := De.hd (HO.out.step hb)
          clear hb z1
          go_wp2_with fail
          refine (awake12_any HJ.out).mono ?_
          rintro e w' ⟨rfl, hb⟩
          replace HO := De.hd (HO.out.step hb)
          clear hb
          go_wp2_with fail
          go_ret
          exact ⟨rfl, HO.out.1⟩

set_option maxRecDepth 100000 in
theorem lifted (os : Os) (started : os.Started) (H : Type) (enc : TypeId × Value → H) :
    ReturnsInHanded {} Tryz.checked os 3 .any (Rows.deriveTellsSpec.pre6 enc Tryz.prog Tryz.f3 Rows.deriveTellsRow.domain false) (Rows.deriveTellsSpec.post enc Tryz.prog Tryz.f3 false true false false) := by
  refine returnsInHanded_of_change (C := Tryz.checked) own started (by kernel_rfl) Tryz.func3
    (ChangeSpec.witness6 (enc := enc) (C := Tryz.checked) false ⟨#[], #[.slice none 0 0], []⟩ 8 (by kernel_rfl) (by kernel_rfl) (by kernel_rfl) (by kernel_rfl)) ?_
  intro W base args ds gs before hval0 hW hcnd _
  have hval : ∀ (j : Nat) t v, Tryz.f3.params[j]? = some t → args[j]? = some v → Value.okWide Tryz.prog W .any base t v := hval0
  have hW' := hW
  obtain ⟨p, q, hA0, hV, rfl, hfz, hnd⟩ := hW
  have hA : DataW.TrodAll enc Tryz.prog W 0 (fun _ => true) true Tryz.f3.params.toList args.toList ds p := hA0
  rw [Tryz.params3] at hA hval
  obtain ⟨v0, vs0, d0, ds0, p0, q0, hargs, rfl, rfl, h0, r0⟩ := trodAll_cons hA
  obtain ⟨rfl, rfl, rfl⟩ := trodAll_nil r0
  obtain rfl : args = #[v0] := by cases args; simp_all
  obtain ⟨rfl, rfl⟩ := trodVars_none hV
  obtain ⟨a0, len0, cap0, rfl⟩ := okWide_slice Tryz.underlying22 (hval 0 22 v0 rfl rfl)
  have k0 := h0
  have lt0 : ∀ x ∈ p0, x.block < W.heap.size := by obtain ⟨m, hm⟩ := k0; exact DataW.trod_lt m _ _ _ hm
  obtain ⟨z0, w0⟩ : ∃ zs, IsRow .i32 W a0 len0 cap0 zs := by
    obtain ⟨fuel, hf⟩ := h0
    rcases open_ints Tryz.underlying22 Tryz.underlying21 (by kernel_rfl) hf with ⟨hcs, _⟩ | ⟨x, l, c, zs, hcs, _, hl, hm, hz, _, hcell, hwz⟩
    · simp [Value.cells] at hcs
      obtain ⟨rfl, rfl, rfl⟩ := hcs
      exact ⟨[], .inl ⟨rfl, rfl, rfl, rfl⟩⟩
    · simp [Value.cells] at hcs
      obtain ⟨rfl, rfl, rfl⟩ := hcs
      exact ⟨zs, .inr ⟨_, rfl, hl, hm, by simpa using hz, hcell, hwz⟩⟩
  clear hA0 hval0
  refine (walk a0 len0 cap0 z0 W w0).mono fun e W' ⟨he, bel⟩ => ?_
  subst he
  exact ⟨_, rfl, _, _, _, [], _, [], hW', trodAll_mk1 (shut_bool Tryz.underlying4 _), (trodAll_cons_mk (Below.trod laidOut (by kernel_rfl) (of_decide_eq_true (by kernel_rfl)) k0 bel lt0) trodAll_mk0), rfl, bel.frame _, fun h => by cases h⟩

theorem over : Rows.deriveTellsRow.holds Tryz.pinned (OpenSpec.ofChange Rows.deriveTellsSpec) :=
  OpenClaim.holds_of_wide 3 Tryz.f3 rfl rfl rfl rfl rfl rfl rfl ⟨rfl, rfl, rfl, rfl, rfl⟩ rfl rfl rfl rfl rfl (by kernel_rfl) Tryz.func3 (by kernel_rfl)
    (of_decide_eq_true (by kernel_rfl)) (by unfold Func.isWrapper; first | (rw [if_pos (by decide +kernel)]; kernel_rfl) | (rw [if_neg (by decide +kernel)]; exact ⟨rfl, rfl⟩))
    (fun os started H enc _ => lifted os started H enc)

end Go.Proofs.YtcnjgbjadbnjpabGreat.deriveTells
namespace Go.Proofs.YtcnjgbjadbnjpabGreat
theorem deriveTells_holds : Rows.DeriveTellsSaid := deriveTells.over
#print axioms deriveTells_holds
end Go.Proofs.YtcnjgbjadbnjpabGreat
