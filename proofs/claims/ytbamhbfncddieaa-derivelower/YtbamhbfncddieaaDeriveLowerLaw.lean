/-
  For every slice l of runes the law DeriveLower returns true, and l reads behind the call as it read before. No condition.
-/
import Derived.Test.YtbamhbfncddieaaRows
import Derived.Test.YtbamhbfncddieaaDer1x2
import Derived.WalkKit
import Derived.ProofKit
import Derived.OpenShut
import Derived.ShutString
import Derived.ChangeOld
import Derived.Below
namespace Go.Proofs.Ytbamhbfncddieaa.deriveLower
open Go.ChangeShapes Go.WideShapes Go.ChangeAt Go.RowKit
open Go.ChangeMaps (open_string shut_string)
set_option linter.unusedVariables false

theorem own : ownKnob Try.prog.godebug = none := by kernel_rfl
theorem laidOut : laidOutB Try.prog = true := by kernel_rfl

/-- WHAT THE WALK IS TOLD OF A SLICE OF INTEGERS THAT CAME IN: it is nil; or it leads to a row of 'cap' cells, the numbers 'zs' (the first 'len' are its elements, the rest its spare room), each fitting its kind. -/
def IsRow (k : IntKind) (w : World) (a : Option Addr) (len cap : Nat) (zs : List Int) : Prop :=
  (a = none ∧ len = 0 ∧ cap = 0 ∧ zs = []) ∨
  ∃ x, a = some x ∧ len ≤ cap ∧ cap ≤ maxLen ∧ zs.length = cap ∧ (∀ i, i < zs.length → w.cell? (x.add i) = some (.int k (zs.getD i 0))) ∧ ∀ n ∈ zs, (Lit.int k n).wf = true

open Od De in
set_option maxHeartbeats 8000000 in
set_option maxRecDepth 100000 in
theorem walk (a0 : Option Addr) (len0 cap0 : Nat) (z0 : List Int) (w : World) (w0 : IsRow .i32 w a0 len0 cap0 z0) :
    Calls Try.prog 3 #[.slice a0 len0 cap0] w fun e w' => e = .returned (.bool true) ∧ Below w.heap.size w w' := by
  obtain ⟨hlen, hS, hZ⟩ := row_sl w0
  have HZ : Hid (∀ y ∈ z0.take len0, Pr.I32 y) := fun y hy => ⟨(hZ y hy).1, (hZ y hy).2⟩
  have HS : Hid (SlP .i32 w a0 cap0 (z0.take len0)) := hS
  have hLen : Hid ((z0.take len0).length = len0) := hlen
  generalize z0.take len0 = zs at *
  clear w0 hS hZ hlen
  have HO := De.hd (Ok.start w)
  go_enter Try.func3, Try.ntmps3
  go_wp2_with fail
  refine (judge_any _).mono ?_
  rintro e W0 ⟨j, b, f, p, d, u, s, rfl, hJ, hb⟩
  have HJ := De.hd hJ
  replace HO := De.hd (HO.out.step hb)
  clear hJ hb
  by_cases hl : 40 < len0
  · go_wp2_with fail
    refine (awake12_any HJ.out).mono ?_
    rintro e w' ⟨rfl, hb⟩
    replace HO := De.hd (HO.out.step hb)
    clear hb
    go_wp2_with fail
    go_ret
    exact ⟨rfl, HO.out.1⟩
  · go_wp2_with fail
    refine (newbook_any _).mono ?_
    rintro e W1 ⟨b2, rfl, hb, hB⟩
    have HB := De.hd hB
    replace HJ := De.hd (HJ.out.step hb)
    replace HO := De.hd (HO.out.step hb)
    clear hb hB
    go_wp2_with fail
    refine (Pr.new_any _).mono ?_
    rintro e W2 ⟨p2, d2, uq, s2, rfl, hP, hb⟩
    have HP := De.hd hP
    replace HB := De.hd (HB.out.step hb)
    replace HJ := De.hd (HJ.out.step hb)
    replace HO := De.hd (HO.out.step hb)
    clear hb hP
    go_wp2_with fail
    refine (Nf.new_any' HB.out HP.out).mono ?_
    rintro e W3 ⟨f2, rfl, hF, hb⟩
    have HF := De.hd hF
    replace HJ := De.hd (HJ.out.step hb)
    replace HO := De.hd (HO.out.step hb)
    clear hb hF HB HP
    go_wp2_with fail
    go_loopg [22] len0 (fun gg vi wr => ∃ k : Nat, vi = .int .i64 k ∧ k ≤ len0 ∧ gg = len0 - k ∧ Hid (Ok w.heap.size w wr ∧ Jd wr j b f p d u s ∧ Nf.Fm wr f2 b2 p2 d2 uq s2))
    case atStart => exact ⟨0, rfl, Nat.zero_le _, rfl, HO.out, HJ.out, HF.out⟩
    case round =>
      obtain ⟨k, rfl, hk, hg, H⟩ := hrel
      have HG := De.hd hg
      clear hg HO HJ HF
      by_cases hlt : k < len0
      · have hlx : k < zs.length := by rw [hLen.out]; exact hlt
        obtain ⟨bb, off, rfl, hb, c1⟩ := HS.out.at_ k hlx
        have d1 := (H.out.1.1.cell (p := ⟨bb, off + k, none⟩) hb).trans c1
        have hI := HZ.out zs[k] (List.getElem_mem hlx)
        clear c1
        generalize zs[k] = x at *
        have HOf := De.hd (of_any H.out.2.1 x hI)
        have HLo := De.hd (fun (W : World) => Pr.low_any x W hI)
        have HWi := De.hd (fun (W : World) => Pr.wid_any x W hI)
        have HSt := De.hd (fun (W : World) (h : Nf.Fm W f2 b2 p2 d2 uq s2) => stab_any h hI)
        have H1 := De.hd (of_lower (r := x))
        generalize ofP x = y at *
        generalize Pr.lowP x Pr.spanT = lo at *
        generalize Pr.widP x = wi at *
        generalize stB x = st at *
        have z1 : (k : Int) < (len0 : Int) := by omega
        go_wp2_with fail
        refine HOf.out.mono ?_
        rintro e W4 ⟨rfl, hb2⟩
        replace H := De.hd (⟨H.out.1.step hb2, H.out.2.1.step hb2, H.out.2.2.step hb2⟩ : Ok w.heap.size w W4 ∧ Jd W4 j b f p d u s ∧ Nf.Fm W4 f2 b2 p2 d2 uq s2)
        clear hb2 HOf
        by_cases hy : y = 1
        · by_cases h2 : x = 223
          · subst hy
            subst h2
            clear H1
            go_wp2_with fail
            go_roundg (len0 - (k + 1))
            case measure => rw [HG.out]; omega
            case rel => exact ⟨k + 1, by go_num, by omega, rfl, H.out⟩
          · by_cases h3 : x = 962
            · subst hy
              subst h3
              clear H1
              go_wp2_with fail
              go_roundg (len0 - (k + 1))
              case measure => rw [HG.out]; omega
              case rel => exact ⟨k + 1, by go_num, by omega, rfl, H.out⟩
            · obtain ⟨g1, g2, g3⟩ := H1.out hy h2 h3
              subst hy
              subst g1
              subst g2
              have e1 : (lo == 223) = false := beq_eq_false_iff_ne.2 h2
              have e2 : (lo == 962) = false := beq_eq_false_iff_ne.2 h3
              have e3 : (lo != 223) = true := bne_iff_ne.2 h2
              have e4 : (lo != 962) = true := bne_iff_ne.2 h3
              clear H1 h2 h3
              go_wp2_with fail
              refine (HLo.out _).mono ?_
              rintro e W5 ⟨rfl, hb2⟩
              replace H := De.hd (⟨H.out.1.step hb2, H.out.2.1.step hb2, H.out.2.2.step hb2⟩ : Ok w.heap.size w W5 ∧ Jd W5 j b f p d u s ∧ Nf.Fm W5 f2 b2 p2 d2 uq s2)
              clear hb2
              go_wp2_with fail
              refine (HSt.out _ H.out.2.2).mono ?_
              rintro e W6 ⟨rfl, hb2⟩
              replace H := De.hd (⟨H.out.1.step hb2, H.out.2.1.step hb2, H.out.2.2.step hb2⟩ : Ok w.heap.size w W6 ∧ Jd W6 j b f p d u s ∧ Nf.Fm W6 f2 b2 p2 d2 uq s2)
              clear hb2
              go_wp2_with fail
              refine (HWi.out _).mono ?_
              rintro e W7 ⟨rfl, hb2⟩
              replace H := De.hd (⟨H.out.1.step hb2, H.out.2.1.step hb2, H.out.2.2.step hb2⟩ : Ok w.heap.size w W7 ∧ Jd W7 j b f p d u s ∧ Nf.Fm W7 f2 b2 p2 d2 uq s2)
              clear hb2
              go_wp2_with fail
              go_roundg (len0 - (k + 1))
              case measure => rw [HG.out]; omega
              case rel => exact ⟨k + 1, by go_num, by omega, rfl, H.out⟩
        · have e0 : (y == 1) = false := beq_eq_false_iff_ne.2 hy
          clear H1
          go_wp2_with fail
          go_roundg (len0 - (k + 1))
          case measure => rw [HG.out]; omega
          case rel => exact ⟨k + 1, by go_num, by omega, rfl, H.out⟩
      · have z1 : ¬ (k : Int) < (len0 : Int) := by omega
        have HJ := De.hd H.out.2.1
        have HO := De.hd H.out.1
        go_wp2_with fail
        refine (awake12_any HJ.out).mono ?_
        rintro e w' ⟨rfl, hb⟩
        replace HO := De.hd (HO.out.step hb)
        clear hb
        go_wp2_with fail
        go_ret
        exact ⟨rfl, HO.out.1⟩

set_option maxRecDepth 100000 in
theorem lifted (os : Os) (started : os.Started) (H : Type) (enc : TypeId × Value → H) :
    ReturnsInHanded {} Try.checked os 3 .any (Rows.deriveLowerSpec.pre6 enc Try.prog Try.f3 Rows.deriveLowerRow.domain false) (Rows.deriveLowerSpec.post enc Try.prog Try.f3 false true false false) := by
  refine returnsInHanded_of_change (C := Try.checked) own started (by kernel_rfl) Try.func3
    (ChangeSpec.witness6 (enc := enc) (C := Try.checked) false ⟨#[], #[.slice none 0 0], []⟩ 8 (by kernel_rfl) (by kernel_rfl) (by kernel_rfl) (by kernel_rfl)) ?_
  intro W base args ds gs before hval0 hW hcnd _
  have hval : ∀ (j : Nat) t v, Try.f3.params[j]? = some t → args[j]? = some v → Value.okWide Try.prog W .any base t v := hval0
  have hW' := hW
  obtain ⟨p, q, hA0, hV, rfl, hfz, hnd⟩ := hW
  have hA : DataW.TrodAll enc Try.prog W 0 (fun _ => true) true Try.f3.params.toList args.toList ds p := hA0
  rw [Try.params3] at hA hval
  obtain ⟨v0, vs0, d0, ds0, p0, q0, hargs, rfl, rfl, h0, r0⟩ := trodAll_cons hA
  obtain ⟨rfl, rfl, rfl⟩ := trodAll_nil r0
  obtain rfl : args = #[v0] := by cases args; simp_all
  obtain ⟨rfl, rfl⟩ := trodVars_none hV
  obtain ⟨a0, len0, cap0, rfl⟩ := okWide_slice Try.underlying22 (hval 0 22 v0 rfl rfl)
  have k0 := h0
  have lt0 : ∀ x ∈ p0, x.block < W.heap.size := by obtain ⟨m, hm⟩ := k0; exact DataW.trod_lt m _ _ _ hm
  obtain ⟨z0, w0⟩ : ∃ zs, IsRow .i32 W a0 len0 cap0 zs := by
    obtain ⟨fuel, hf⟩ := h0
    rcases open_ints Try.underlying22 Try.underlying21 (by kernel_rfl) hf with ⟨hcs, _⟩ | ⟨x, l, c, zs, hcs, _, hl, hm, hz, _, hcell, hwz⟩
    · simp [Value.cells] at hcs
      obtain ⟨rfl, rfl, rfl⟩ := hcs
      exact ⟨[], .inl ⟨rfl, rfl, rfl, rfl⟩⟩
    · simp [Value.cells] at hcs
      obtain ⟨rfl, rfl, rfl⟩ := hcs
      exact ⟨zs, .inr ⟨_, rfl, hl, hm, by simpa using hz, hcell, hwz⟩⟩
  clear hA0 hval0
  refine (walk a0 len0 cap0 z0 W w0).mono fun e W' ⟨he, bel⟩ => ?_
  subst he
  exact ⟨_, rfl, _, _, _, [], _, [], hW', trodAll_mk1 (shut_bool Try.underlying4 _), (trodAll_cons_mk (Below.trod laidOut (by kernel_rfl) (of_decide_eq_true (by kernel_rfl)) k0 bel lt0) trodAll_mk0), rfl, bel.frame _, fun h => by cases h⟩

theorem over : Rows.deriveLowerRow.holds Try.pinned (OpenSpec.ofChange Rows.deriveLowerSpec) :=
  OpenClaim.holds_of_wide 3 Try.f3 rfl rfl rfl rfl rfl rfl rfl ⟨rfl, rfl, rfl, rfl, rfl⟩ rfl rfl rfl rfl rfl (by kernel_rfl) Try.func3 (by kernel_rfl)
    (of_decide_eq_true (by kernel_rfl)) (by unfold Func.isWrapper; first | (rw [if_pos (by decide +kernel)]; kernel_rfl) | (rw [if_neg (by decide +kernel)]; exact ⟨rfl, rfl⟩))
    (fun os started H enc _ => lifted os started H enc)

end Go.Proofs.Ytbamhbfncddieaa.deriveLower
namespace Go.Proofs.Ytbamhbfncddieaa
theorem deriveLower_holds : Rows.DeriveLowerSaid := deriveLower.over
#print axioms deriveLower_holds
end Go.Proofs.Ytbamhbfncddieaa
