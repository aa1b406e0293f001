/-
  For every slice l of runes the law PairCases returns true, and l reads behind the call as it read before. No condition.
-/
import Derived.Test.YtfbphacbnmimkabRows
import Derived.Test.YtfbphacbnmimkabPr12
import Derived.WalkKit
import Derived.ProofKit
import Derived.OpenShut
import Derived.ShutString
import Derived.ChangeOld
import Derived.Below
namespace Go.Proofs.Ytfbphacbnmimkab.pairCases
open Go.ChangeShapes Go.WideShapes Go.ChangeAt Go.RowKit
open Go.ChangeMaps (open_string shut_string)
set_option linter.unusedVariables false

theorem own : ownKnob Try.prog.godebug = none := by kernel_rfl
theorem laidOut : laidOutB Try.prog = true := by kernel_rfl

/-- WHAT THE WALK IS TOLD OF A SLICE OF INTEGERS THAT CAME IN: it is nil; or it leads to a row of 'cap' cells, the numbers 'zs' (the first 'len' are its elements, the rest its spare room), each fitting its kind. -/
def IsRow (k : IntKind) (w : World) (a : Option Addr) (len cap : Nat) (zs : List Int) : Prop :=
  (a = none ∧ len = 0 ∧ cap = 0 ∧ zs = []) ∨
  ∃ x, a = some x ∧ len ≤ cap ∧ cap ≤ maxLen ∧ zs.length = cap ∧ (∀ i, i < zs.length → w.cell? (x.add i) = some (.int k (zs.getD i 0))) ∧ ∀ n ∈ zs, (Lit.int k n).wf = true

/-- Runes as they are read. -/
def RunesIn (w : World) (a : Option Addr) (zs : List Int) : Prop := ∀ k (h : k < zs.length), ∃ b off, a = some ⟨b, off, none⟩ ∧ b < w.heap.size ∧ w.cell? ⟨b, off + k, none⟩ = some (.int .i32 zs[k])
theorem runes_of_row {w : World} {a : Option Addr} {len cap : Nat} {zs : List Int} (h : IsRow .i32 w a len cap zs) : (zs.take len).length = len ∧ RunesIn w a (zs.take len) ∧ ∀ y ∈ zs.take len, -2147483648 ≤ y ∧ y ≤ 2147483647 := by
  rcases h with ⟨rfl, rfl, rfl, rfl⟩ | ⟨x, rfl, hl, hm, hz, hcell, hwz⟩
  · exact ⟨rfl, fun k hk => by simp at hk, fun y hy => by simp at hy⟩
  · have hlen : (zs.take len).length = len := by rw [List.length_take]; omega
    refine ⟨hlen, fun k hk => ?_, fun y hy => by have h := hwz y (List.mem_of_mem_take hy); simp only [Lit.wf, Bool.and_eq_true, decide_eq_true_eq] at h; exact h⟩
    rw [hlen] at hk
    obtain ⟨b, off, spot⟩ := x
    have hc := hcell k (by omega)
    have hspot : spot = none := by simpa [Addr.add] using World.cell?_spot (hcell 0 (by omega))
    subst hspot
    have hadd : (⟨b, off, none⟩ : Addr).add k = ⟨b, off + k, none⟩ := by unfold Addr.add; split <;> simp_all
    rw [hadd] at hc
    refine ⟨b, off, rfl, World.block_lt_of_cell? w _ hc, ?_⟩
    rw [hc, List.getElem_take]
    simp [List.getD_eq_getElem?_getD, List.getElem?_eq_getElem (show k < zs.length by omega)]

set_option maxHeartbeats 2000000 in
set_option maxRecDepth 100000 in
theorem walk (a0 : Option Addr) (len0 cap0 : Nat) (z0 : List Int) (w : World) (w0 : IsRow .i32 w a0 len0 cap0 z0) :
    Calls Try.prog 6 #[.slice a0 len0 cap0] w fun e w' => e = .returned (.bool true) ∧ Below w.heap.size w w' := by
  obtain ⟨hlen, hR, hZ⟩ := runes_of_row w0
  have HN := hid (new_any w)
  have HAw := hid (fun (w : World) (p d u s : Nat) (h : PW w p d u s allP 395) => awake_any h)
  have HR := hid (And.intro hR hZ)
  generalize z0.take len0 = zs at *
  generalize allP = L at *
  clear w0 hR hZ
  subst hlen
  have h0 := Ok.start w
  by_cases hl : 60 < zs.length
  · go_enter Try.func6, Try.ntmps6
    go_wp2_with fail
    refine HN.out.mono ?_
    rintro e w1 ⟨p, d, u, s, rfl, hP1, hb1⟩
    have HP := hid hP1
    replace h0 := h0.step hb1
    clear hP1 hb1
    go_wp2_with fail
    refine (HAw.out _ _ _ _ _ HP.out).mono ?_
    rintro e w2 ⟨rfl, hb2⟩
    replace h0 := h0.step hb2
    go_wp2_with fail
    go_ret
    exact ⟨rfl, h0.1⟩
  · go_enter Try.func6, Try.ntmps6
    go_wp2_with fail
    refine HN.out.mono ?_
    rintro e w1 ⟨p, d, u, s, rfl, hP1, hb1⟩
    have HP := hid hP1
    replace h0 := h0.step hb1
    clear hP1 hb1 HN
    go_wp2_with fail
    go_loopg [16] zs.length (fun g i wr => ∃ k : Nat, k ≤ zs.length ∧ g = zs.length - k ∧ i = .int .i64 k ∧ Hid (Ok w.heap.size w wr ∧ PW wr p d u s L 395))
    case atStart => exact ⟨0, Nat.zero_le _, by omega, rfl, h0, HP.out⟩
    case round =>
      clear h0 HP
      obtain ⟨k, hk, hg, rfl, H⟩ := hrel
      have HG := hid hg
      have hok := H.out.1
      have HP := hid H.out.2
      clear hg H
      by_cases hlt : k < zs.length
      · obtain ⟨bb, off, rfl, hbl, hc⟩ := HR.out.1 k hlt
        have hc' := (hok.1.cell (p := ⟨bb, off + k, none⟩) hbl).trans hc
        have hr : I32 zs[k] := HR.out.2 zs[k] (List.getElem_mem hlt)
        clear hc hbl HR
        generalize zs[k] = r at *
        have hlo := low_facts r hr
        have hwi := wid_facts r hr
        have HL := hid (fun (r : Int) (w : World) (hr : I32 r) => low_any r w hr)
        have HW := hid (fun (r : Int) (w : World) (hr : I32 r) => wid_any r w hr)
        have HRL := hid (fun (w : World) => rlow_any r w hr)
        have HRW := hid (fun (w : World) => rwid_any r w hr)
        generalize spanT = T at *
        obtain ⟨lo, hlo0⟩ : ∃ lo, lowP r T = lo := ⟨_, rfl⟩
        obtain ⟨wi, hwi0⟩ : ∃ wi, widP r = wi := ⟨_, rfl⟩
        rw [hlo0] at hlo HRL
        rw [hwi0] at hwi HRW
        obtain ⟨l1, l2⟩ := hlo
        obtain ⟨v1, v2⟩ := hwi
        have HI := hid (And.intro hr (And.intro l2 v2))
        obtain ⟨r0, r1⟩ := hr
        obtain ⟨q0, q1⟩ := l2
        obtain ⟨q2, q3⟩ := v2
        go_wp2_with (first | (go_at_call 19; refine (HL.out _ _ (by first | exact HI.out.1 | exact HI.out.2.1)).mono ?_; rintro e w2 ⟨rfl, hb2⟩; replace hok := hok.step hb2; replace HP := hid (HP.out.step hb2); clear hb2) | (go_at_call 20; refine (HW.out _ _ (by first | exact HI.out.1 | exact HI.out.2.2)).mono ?_; rintro e w2 ⟨rfl, hb2⟩; replace hok := hok.step hb2; replace HP := hid (HP.out.step hb2); clear hb2) | (go_at_call 21; refine (HRL.out _).mono ?_; rintro e w2 ⟨rfl, hb2⟩; replace hok := hok.step hb2; replace HP := hid (HP.out.step hb2); clear hb2) | (go_at_call 22; refine (HRW.out _).mono ?_; rintro e w2 ⟨rfl, hb2⟩; replace hok := hok.step hb2; replace HP := hid (HP.out.step hb2); clear hb2))
        go_roundg (zs.length - (k + 1))
        case measure => rw [HG.out]; omega
        case rel => exact ⟨k + 1, by omega, rfl, by go_num, hok, HP.out⟩
      · go_wp2_with fail
        refine (HAw.out _ _ _ _ _ HP.out).mono ?_
        rintro e w2 ⟨rfl, hb2⟩
        replace hok := hok.step hb2
        go_wp2_with fail
        go_ret
        exact ⟨rfl, hok.1⟩

set_option maxRecDepth 100000 in
theorem lifted (os : Os) (started : os.Started) (H : Type) (enc : TypeId × Value → H) :
    ReturnsInHanded {} Try.checked os 6 .any (Rows.pairCasesSpec.pre6 enc Try.prog Try.f6 Rows.pairCasesRow.domain false) (Rows.pairCasesSpec.post enc Try.prog Try.f6 false true false false) := by
  refine returnsInHanded_of_change (C := Try.checked) own started (by kernel_rfl) Try.func6
    (ChangeSpec.witness6 (enc := enc) (C := Try.checked) false ⟨#[], #[.slice none 0 0], []⟩ 8 (by kernel_rfl) (by kernel_rfl) (by kernel_rfl) (by kernel_rfl)) ?_
  intro W base args ds gs before hval0 hW hcnd _
  have hval : ∀ (j : Nat) t v, Try.f6.params[j]? = some t → args[j]? = some v → Value.okWide Try.prog W .any base t v := hval0
  have hW' := hW
  obtain ⟨p, q, hA0, hV, rfl, hfz, hnd⟩ := hW
  have hA : DataW.TrodAll enc Try.prog W 0 (fun _ => true) true Try.f6.params.toList args.toList ds p := hA0
  rw [Try.params6] at hA hval
  obtain ⟨v0, vs0, d0, ds0, p0, q0, hargs, rfl, rfl, h0, r0⟩ := trodAll_cons hA
  obtain ⟨rfl, rfl, rfl⟩ := trodAll_nil r0
  obtain rfl : args = #[v0] := by cases args; simp_all
  obtain ⟨rfl, rfl⟩ := trodVars_none hV
  obtain ⟨a0, len0, cap0, rfl⟩ := okWide_slice Try.underlying22 (hval 0 22 v0 rfl rfl)
  have k0 := h0
  have lt0 : ∀ x ∈ p0, x.block < W.heap.size := by obtain ⟨m, hm⟩ := k0; exact DataW.trod_lt m _ _ _ hm
  obtain ⟨z0, w0⟩ : ∃ zs, IsRow .i32 W a0 len0 cap0 zs := by
    obtain ⟨fuel, hf⟩ := h0
    rcases open_ints Try.underlying22 Try.underlying21 (by kernel_rfl) hf with ⟨hcs, _⟩ | ⟨x, l, c, zs, hcs, _, hl, hm, hz, _, hcell, hwz⟩
    · simp [Value.cells] at hcs
      obtain ⟨rfl, rfl, rfl⟩ := hcs
      exact ⟨[], .inl ⟨rfl, rfl, rfl, rfl⟩⟩
    · simp [Value.cells] at hcs
      obtain ⟨rfl, rfl, rfl⟩ := hcs
      exact ⟨zs, .inr ⟨_, rfl, hl, hm, by simpa using hz, hcell, hwz⟩⟩
  clear hA0 hval0
  refine (walk a0 len0 cap0 z0 W w0).mono fun e W' ⟨he, bel⟩ => ?_
  subst he
  exact ⟨_, rfl, _, _, _, [], _, [], hW', trodAll_mk1 (shut_bool Try.underlying4 _), (trodAll_cons_mk (Below.trod laidOut (by kernel_rfl) (of_decide_eq_true (by kernel_rfl)) k0 bel lt0) trodAll_mk0), rfl, bel.frame _, fun h => by cases h⟩

theorem over : Rows.pairCasesRow.holds Try.pinned (OpenSpec.ofChange Rows.pairCasesSpec) :=
  OpenClaim.holds_of_wide 6 Try.f6 rfl rfl rfl rfl rfl rfl rfl ⟨rfl, rfl, rfl, rfl, rfl⟩ rfl rfl rfl rfl rfl (by kernel_rfl) Try.func6 (by kernel_rfl)
    (of_decide_eq_true (by kernel_rfl)) (by unfold Func.isWrapper; first | (rw [if_pos (by decide +kernel)]; kernel_rfl) | (rw [if_neg (by decide +kernel)]; exact ⟨rfl, rfl⟩))
    (fun os started H enc _ => lifted os started H enc)

end Go.Proofs.Ytfbphacbnmimkab.pairCases
namespace Go.Proofs.Ytfbphacbnmimkab
theorem pairCases_holds : Rows.PairCasesSaid := pairCases.over
#print axioms pairCases_holds
end Go.Proofs.Ytfbphacbnmimkab
