/-
  For every slice l of runes and every rune r the law RuleFree returns true, and l reads behind the call as it read before. No condition.
-/
import Derived.Test.YtbamhbfncddieaaRows
import Derived.Test.YtbamhbfncddieaaRul6
import Derived.WalkKit
import Derived.ProofKit
import Derived.OpenShut
import Derived.ShutString
import Derived.ChangeOld
import Derived.Below
namespace Go.Proofs.Ytbamhbfncddieaa.ruleFree
open Go.ChangeShapes Go.WideShapes Go.ChangeAt Go.RowKit
open Go.ChangeMaps (open_string shut_string)
set_option linter.unusedVariables false

theorem own : ownKnob Try.prog.godebug = none := by kernel_rfl
theorem laidOut : laidOutB Try.prog = true := by kernel_rfl

/-- WHAT THE WALK IS TOLD OF A SLICE OF INTEGERS THAT CAME IN: it is nil; or it leads to a row of 'cap' cells, the numbers 'zs' (the first 'len' are its elements, the rest its spare room), each fitting its kind. -/
def IsRow (k : IntKind) (w : World) (a : Option Addr) (len cap : Nat) (zs : List Int) : Prop :=
  (a = none ∧ len = 0 ∧ cap = 0 ∧ zs = []) ∨
  ∃ x, a = some x ∧ len ≤ cap ∧ cap ≤ maxLen ∧ zs.length = cap ∧ (∀ i, i < zs.length → w.cell? (x.add i) = some (.int k (zs.getD i 0))) ∧ ∀ n ∈ zs, (Lit.int k n).wf = true

open Od Ru in
set_option maxHeartbeats 8000000 in
set_option maxRecDepth 100000 in
theorem walk (a0 : Option Addr) (len0 cap0 : Nat) (z0 : List Int) (a1 : Int) (w : World) (w0 : IsRow .i32 w a0 len0 cap0 z0) (w1 : (Lit.int .i32 a1).wf = true) :
    Calls Try.prog 6 #[.slice a0 len0 cap0, .int .i32 a1] w fun e w' => e = .returned (.bool true) ∧ Below w.heap.size w w' := by
  obtain ⟨hlen, hS, hZ⟩ := row_sl w0
  have HS : Hid (SlP .i32 w a0 cap0 (z0.take len0)) := hS
  have hLen : Hid ((z0.take len0).length = len0) := hlen
  generalize z0.take len0 = zs at *
  clear w0 hS hZ hlen
  have HO := Ru.hr (Ok.start w)
  have HHs := Ru.hr (fun (r : Int) (W : World) => has_any r W)
  have HEx := Ru.hr (fun (W : World) => exc_any a1 W)
  have HHE := Ru.hr (has_ex a1)
  go_enter Try.func6, Try.ntmps6
  go_wp2_with fail
  refine (newbook_any _).mono ?_
  rintro e W1 ⟨b, rfl, hb, hB⟩
  have HB := Ru.hr hB
  replace HO := Ru.hr (HO.out.step hb)
  clear hb hB
  by_cases hl : 60 < len0
  · go_wp2_with fail
    refine (awake13_any HB.out).mono ?_
    rintro e w' ⟨rfl, hb⟩
    replace HO := Ru.hr (HO.out.step hb)
    clear hb
    go_wp2_with fail
    go_ret
    exact ⟨rfl, HO.out.1⟩
  · go_wp2_with fail
    go_loopg [19] len0 (fun gg vi wr => ∃ k : Nat, vi = .int .i64 k ∧ k ≤ len0 ∧ gg = len0 - k ∧ Hid (Ok w.heap.size w wr ∧ Bk wr b))
    case atStart => exact ⟨0, rfl, Nat.zero_le _, rfl, HO.out, HB.out⟩
    case round =>
      obtain ⟨k, rfl, hk, hg, H⟩ := hrel
      have HG := Ru.hr hg
      clear hg HO HB
      by_cases hlt : k < len0
      · have hlx : k < zs.length := by rw [hLen.out]; exact hlt
        obtain ⟨bb, off, e0, hb, c1⟩ := HS.out.at_ k hlx
        have d1 := (H.out.1.1.cell (p := ⟨bb, off + k, none⟩) hb).trans c1
        have HMt := Ru.hr (Met_in H.out.2 hLen.out (HS.out.step H.out.1.1) (by omega) k hlx)
        have HFr := Ru.hr (fun (h : hsB zs[k] = false) => met_free (r := zs[k]) h zs k)
        have HH := Ru.hr (fun W => HHs.out zs[k] W)
        clear c1
        generalize metR zs[k] zs k = q at *
        generalize zs[k] = x at *
        subst e0
        have z1 : (k : Int) < (len0 : Int) := by omega
        go_wp2_with fail
        refine (HH.out _).mono ?_
        rintro e W2 ⟨rfl, rfl⟩
        generalize hsB x = h at *
        cases h
        · have hq := HFr.out rfl
          subst hq
          go_wp2_with fail
          refine HMt.out.mono ?_
          rintro e W3 ⟨rfl, hb3⟩
          replace H := Ru.hr (And.intro (H.out.1.step hb3) (H.out.2.step hb3))
          clear hb3
          go_wp2_with fail
          go_roundg (len0 - (k + 1))
          case measure => rw [HG.out]; omega
          case rel => exact ⟨k + 1, by go_num, by omega, rfl, H.out⟩
        · go_wp2_with fail
          go_roundg (len0 - (k + 1))
          case measure => rw [HG.out]; omega
          case rel => exact ⟨k + 1, by go_num, by omega, rfl, H.out⟩
      · have z1 : ¬ (k : Int) < (len0 : Int) := by omega
        have HO := Ru.hr H.out.1
        have HB := Ru.hr H.out.2
        have HH := Ru.hr (fun W => HHs.out a1 W)
        clear H HG
        by_cases h1 : a1 = 8204
        · have p1 : (a1 == 8204) = true := beq_iff_eq.2 h1
          have hq : hsB a1 = true := by rw [HHE.out, p1]; rfl
          rw [hq] at HH
          clear h1 hq
          go_wp2_with fail
          refine (HH.out _).mono ?_
          rintro e W2 ⟨rfl, rfl⟩
          go_wp2_with fail
          refine (awake13_any HB.out).mono ?_
          rintro e w' ⟨rfl, hb⟩
          replace HO := Ru.hr (HO.out.step hb)
          clear hb
          go_wp2_with fail
          go_ret
          exact ⟨rfl, HO.out.1⟩
        · have p1 : (a1 == 8204) = false := beq_eq_false_iff_ne.2 h1
          by_cases h2 : a1 = 8205
          · have p2 : (a1 == 8205) = true := beq_iff_eq.2 h2
            have hq : hsB a1 = true := by rw [HHE.out, p1, p2]; rfl
            rw [hq] at HH
            clear h1 h2 hq
            go_wp2_with fail
            refine (HH.out _).mono ?_
            rintro e W2 ⟨rfl, rfl⟩
            go_wp2_with fail
            refine (awake13_any HB.out).mono ?_
            rintro e w' ⟨rfl, hb⟩
            replace HO := Ru.hr (HO.out.step hb)
            clear hb
            go_wp2_with fail
            go_ret
            exact ⟨rfl, HO.out.1⟩
          · have p2 : (a1 == 8205) = false := beq_eq_false_iff_ne.2 h2
            have hq : hsB a1 = (exP a1 == 3) := by rw [HHE.out, p1, p2]; rfl
            rw [hq] at HH
            clear h1 h2 hq HHE
            go_wp2_with fail
            refine (HEx.out _).mono ?_
            rintro e W2 ⟨rfl, rfl⟩
            generalize exP a1 = ex at *
            go_wp2_with fail
            refine (HH.out _).mono ?_
            rintro e W3 ⟨rfl, rfl⟩
            go_wp2_with fail
            refine (awake13_any HB.out).mono ?_
            rintro e w' ⟨rfl, hb⟩
            replace HO := Ru.hr (HO.out.step hb)
            clear hb
            go_wp2_with fail
            go_ret
            exact ⟨rfl, HO.out.1⟩

set_option maxRecDepth 100000 in
theorem lifted (os : Os) (started : os.Started) (H : Type) (enc : TypeId × Value → H) :
    ReturnsInHanded {} Try.checked os 6 .any (Rows.ruleFreeSpec.pre6 enc Try.prog Try.f6 Rows.ruleFreeRow.domain false) (Rows.ruleFreeSpec.post enc Try.prog Try.f6 false true false false) := by
  refine returnsInHanded_of_change (C := Try.checked) own started (by kernel_rfl) Try.func6
    (ChangeSpec.witness6 (enc := enc) (C := Try.checked) false ⟨#[], #[.slice none 0 0, .int .i32 0], []⟩ 8 (by kernel_rfl) (by kernel_rfl) (by kernel_rfl) (by kernel_rfl)) ?_
  intro W base args ds gs before hval0 hW hcnd _
  have hval : ∀ (j : Nat) t v, Try.f6.params[j]? = some t → args[j]? = some v → Value.okWide Try.prog W .any base t v := hval0
  have hW' := hW
  obtain ⟨p, q, hA0, hV, rfl, hfz, hnd⟩ := hW
  have hA : DataW.TrodAll enc Try.prog W 0 (fun _ => true) true Try.f6.params.toList args.toList ds p := hA0
  rw [Try.params6] at hA hval
  obtain ⟨v0, vs0, d0, ds0, p0, q0, hargs, rfl, rfl, h0, r0⟩ := trodAll_cons hA
  obtain ⟨v1, vs1, d1, ds1, p1, q1, rfl, rfl, rfl, h1, r1⟩ := trodAll_cons r0
  obtain ⟨rfl, rfl, rfl⟩ := trodAll_nil r1
  obtain rfl : args = #[v0, v1] := by cases args; simp_all
  obtain ⟨rfl, rfl⟩ := trodVars_none hV
  obtain ⟨a0, len0, cap0, rfl⟩ := okWide_slice Try.underlying22 (hval 0 22 v0 rfl rfl)
  have k0 := h0
  have lt0 : ∀ x ∈ p0, x.block < W.heap.size := by obtain ⟨m, hm⟩ := k0; exact DataW.trod_lt m _ _ _ hm
  obtain ⟨z0, w0⟩ : ∃ zs, IsRow .i32 W a0 len0 cap0 zs := by
    obtain ⟨fuel, hf⟩ := h0
    rcases open_ints Try.underlying22 Try.underlying21 (by kernel_rfl) hf with ⟨hcs, _⟩ | ⟨x, l, c, zs, hcs, _, hl, hm, hz, _, hcell, hwz⟩
    · simp [Value.cells] at hcs
      obtain ⟨rfl, rfl, rfl⟩ := hcs
      exact ⟨[], .inl ⟨rfl, rfl, rfl, rfl⟩⟩
    · simp [Value.cells] at hcs
      obtain ⟨rfl, rfl, rfl⟩ := hcs
      exact ⟨zs, .inr ⟨_, rfl, hl, hm, by simpa using hz, hcell, hwz⟩⟩
  obtain ⟨a1, rfl, rfl, rfl, w1⟩ := open_int Try.underlying21 (hval 1 21 v1 rfl rfl) h1
  clear hA0 hval0
  refine (walk a0 len0 cap0 z0 a1 W w0 w1).mono fun e W' ⟨he, bel⟩ => ?_
  subst he
  exact ⟨_, rfl, _, _, _, [], _, [], hW', trodAll_mk1 (shut_bool Try.underlying4 _), (trodAll_cons_mk (Below.trod laidOut (by kernel_rfl) (of_decide_eq_true (by kernel_rfl)) k0 bel lt0) (trodAll_cons_mk (shut_int Try.underlying21 w1) trodAll_mk0)), rfl, bel.frame _, fun h => by cases h⟩

theorem over : Rows.ruleFreeRow.holds Try.pinned (OpenSpec.ofChange Rows.ruleFreeSpec) :=
  OpenClaim.holds_of_wide 6 Try.f6 rfl rfl rfl rfl rfl rfl rfl ⟨rfl, rfl, rfl, rfl, rfl⟩ rfl rfl rfl rfl rfl (by kernel_rfl) Try.func6 (by kernel_rfl)
    (of_decide_eq_true (by kernel_rfl)) (by unfold Func.isWrapper; first | (rw [if_pos (by decide +kernel)]; kernel_rfl) | (rw [if_neg (by decide +kernel)]; exact ⟨rfl, rfl⟩))
    (fun os started H enc _ => lifted os started H enc)

end Go.Proofs.Ytbamhbfncddieaa.ruleFree
namespace Go.Proofs.Ytbamhbfncddieaa
theorem ruleFree_holds : Rows.RuleFreeSaid := ruleFree.over
#print axioms ruleFree_holds
end Go.Proofs.Ytbamhbfncddieaa
