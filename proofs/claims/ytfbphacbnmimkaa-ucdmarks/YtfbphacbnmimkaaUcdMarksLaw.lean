/-
  For every slice l of runes the law UcdMarks returns true, and l reads behind the call as it read before. No condition.
-/
import Derived.Test.YtfbphacbnmimkaaRows
import Derived.Test.YtfbphacbnmimkaaUcd15
import Derived.WalkKit
import Derived.ProofKit
import Derived.OpenShut
import Derived.ShutString
import Derived.ChangeOld
import Derived.Below
namespace Go.Proofs.Ytfbphacbnmimkaa.ucdMarks
open Go.ChangeShapes Go.WideShapes Go.ChangeAt Go.RowKit
open Go.ChangeMaps (open_string shut_string)
set_option linter.unusedVariables false

theorem own : ownKnob Try.prog.godebug = none := by kernel_rfl
theorem laidOut : laidOutB Try.prog = true := by kernel_rfl

/-- WHAT THE WALK IS TOLD OF A SLICE OF INTEGERS THAT CAME IN: it is nil; or it leads to a row of 'cap' cells, the numbers 'zs' (the first 'len' are its elements, the rest its spare room), each fitting its kind. -/
def IsRow (k : IntKind) (w : World) (a : Option Addr) (len cap : Nat) (zs : List Int) : Prop :=
  (a = none ∧ len = 0 ∧ cap = 0 ∧ zs = []) ∨
  ∃ x, a = some x ∧ len ≤ cap ∧ cap ≤ maxLen ∧ zs.length = cap ∧ (∀ i, i < zs.length → w.cell? (x.add i) = some (.int k (zs.getD i 0))) ∧ ∀ n ∈ zs, (Lit.int k n).wf = true

theorem runes_of_row {w : World} {a : Option Addr} {len cap : Nat} {zs : List Int} (h : IsRow .i32 w a len cap zs) : (zs.take len).length = len ∧ RunesIn w a (zs.take len) := by
  rcases h with ⟨rfl, rfl, rfl, rfl⟩ | ⟨x, rfl, hl, hm, hz, hcell, hwz⟩
  · exact ⟨rfl, fun k hk => by simp at hk⟩
  · have hlen : (zs.take len).length = len := by rw [List.length_take]; omega
    refine ⟨hlen, fun k hk => ?_⟩
    rw [hlen] at hk
    obtain ⟨b, off, spot⟩ := x
    have hc := hcell k (by omega)
    have hspot : spot = none := by simpa [Addr.add] using World.cell?_spot (hcell 0 (by omega))
    subst hspot
    have hadd : (⟨b, off, none⟩ : Addr).add k = ⟨b, off + k, none⟩ := by unfold Addr.add; split <;> simp_all
    rw [hadd] at hc
    refine ⟨b, off, rfl, World.block_lt_of_cell? w _ hc, ?_⟩
    rw [hc, List.getElem_take]
    simp [List.getD_eq_getElem?_getD, List.getElem?_eq_getElem (show k < zs.length by omega)]

set_option maxHeartbeats 2000000 in
set_option maxRecDepth 100000 in
theorem walk (a0 : Option Addr) (len0 cap0 : Nat) (z0 : List Int) (w : World) (w0 : IsRow .i32 w a0 len0 cap0 z0) :
    Calls Try.prog 6 #[.slice a0 len0 cap0] w fun e w' => e = .returned (.bool true) ∧ Below w.heap.size w w' := by
  obtain ⟨hlen, hR⟩ := runes_of_row w0
  have HA := hid book_awake
  have HM := hid marks_facts
  have HN := hid (new_any w)
  generalize z0.take len0 = zs at *
  generalize bookL = L at *
  clear w0
  subst hlen
  have HR := hid hR
  clear hR
  have h0 := Ok.start w
  by_cases hl : 60 < zs.length
  · go_enter Try.func6, Try.ntmps6
    go_wp2_with fail
    refine HN.out.mono ?_
    rintro e w1 ⟨b, p, rv, rfl, hb1, hB1⟩
    have HB := hid hB1
    replace h0 := h0.step hb1
    clear hB1 hb1
    go_wp2_with fail
    refine (awake_any HB.out HA.out).mono ?_
    rintro e w2 ⟨rfl, hb2⟩
    replace h0 := h0.step hb2
    go_wp2_with fail
    go_ret
    exact ⟨rfl, h0.1⟩
  · go_enter Try.func6, Try.ntmps6
    go_wp2_with fail
    refine HN.out.mono ?_
    rintro e w1 ⟨b, p, rv, rfl, hb1, hB1⟩
    have HB := hid hB1
    replace h0 := h0.step hb1
    clear hB1 hb1 HN
    have HA2 := hid (asks_mk b L p rv)
    go_wp2_with fail
    go_loopg [16] zs.length (fun g i wr => ∃ k : Nat, k ≤ zs.length ∧ g = zs.length - k ∧ i = .int .i64 k ∧ Hid (Ok w.heap.size w wr ∧ Book wr b L p rv))
    case atStart => exact ⟨0, Nat.zero_le _, by omega, rfl, h0, HB.out⟩
    case round =>
      clear h0 HB
      obtain ⟨k, hk, hg, rfl, H⟩ := hrel
      have HG := hid hg
      have hok := H.out.1
      have HB := hid H.out.2
      clear hg H
      by_cases hlt : k < zs.length
      · obtain ⟨bb, off, rfl, hbl, hc⟩ := HR.out k hlt
        have hc' := (hok.1.cell (p := ⟨bb, off + k, none⟩) hbl).trans hc
        clear hc hbl HR
        generalize zs[k] = r at *
        have HAs := hid (HA2.out r)
        have hmk := HM.out r
        clear HA2 HM HA
        generalize getV zTr L r = x at *
        obtain ⟨xa, xb, xc, xd, xe⟩ := x
        simp only at HAs
        by_cases hd : xd = 0
        · by_cases ha : xa = 0
          · have hb0 : xb = 0 := by simp [markB, hd, ha] at hmk; omega
            have hc0 : xc = 0 := by simp [markB, hd, ha] at hmk; omega
            have he0 : xe = 0 := by simp [markB, hd, ha] at hmk; omega
            subst hd ha hb0 hc0 he0
            clear hmk
            go_wp2_with (first | (go_at_call 10; refine (HAs.out.kind _ HB.out).mono ?_; rintro e w' ⟨rfl, hb'⟩; replace HB := hid (HB.out.step hb'); replace hok := hok.step hb'; clear hb') | (go_at_call 12; refine (HAs.out.bidi _ HB.out).mono ?_; rintro e w' ⟨rfl, hb'⟩; replace HB := hid (HB.out.step hb'); replace hok := hok.step hb'; clear hb') | (go_at_call 13; refine (HAs.out.script _ HB.out).mono ?_; rintro e w' ⟨rfl, hb'⟩; replace HB := hid (HB.out.step hb'); replace hok := hok.step hb'; clear hb') | (go_at_call 14; refine (HAs.out.cls _ HB.out).mono ?_; rintro e w' ⟨rfl, hb'⟩; replace HB := hid (HB.out.step hb'); replace hok := hok.step hb'; clear hb') | (go_at_call 15; refine (HAs.out.join _ HB.out).mono ?_; rintro e w' ⟨rfl, hb'⟩; replace HB := hid (HB.out.step hb'); replace hok := hok.step hb'; clear hb'))
            go_roundg (zs.length - (k + 1))
            case measure => rw [HG.out]; omega
            case rel => exact ⟨k + 1, by omega, rfl, by go_num, hok, HB.out⟩
          · subst hd
            clear hmk
            go_wp2_with (first | (go_at_call 10; refine (HAs.out.kind _ HB.out).mono ?_; rintro e w' ⟨rfl, hb'⟩; replace HB := hid (HB.out.step hb'); replace hok := hok.step hb'; clear hb') | (go_at_call 12; refine (HAs.out.bidi _ HB.out).mono ?_; rintro e w' ⟨rfl, hb'⟩; replace HB := hid (HB.out.step hb'); replace hok := hok.step hb'; clear hb') | (go_at_call 13; refine (HAs.out.script _ HB.out).mono ?_; rintro e w' ⟨rfl, hb'⟩; replace HB := hid (HB.out.step hb'); replace hok := hok.step hb'; clear hb') | (go_at_call 14; refine (HAs.out.cls _ HB.out).mono ?_; rintro e w' ⟨rfl, hb'⟩; replace HB := hid (HB.out.step hb'); replace hok := hok.step hb'; clear hb') | (go_at_call 15; refine (HAs.out.join _ HB.out).mono ?_; rintro e w' ⟨rfl, hb'⟩; replace HB := hid (HB.out.step hb'); replace hok := hok.step hb'; clear hb'))
            go_roundg (zs.length - (k + 1))
            case measure => rw [HG.out]; omega
            case rel => exact ⟨k + 1, by omega, rfl, by go_num, hok, HB.out⟩
        · have ha : xa = 5 := by simp [markB, hd] at hmk; omega
          subst ha
          clear hmk
          go_wp2_with (first | (go_at_call 10; refine (HAs.out.kind _ HB.out).mono ?_; rintro e w' ⟨rfl, hb'⟩; replace HB := hid (HB.out.step hb'); replace hok := hok.step hb'; clear hb') | (go_at_call 12; refine (HAs.out.bidi _ HB.out).mono ?_; rintro e w' ⟨rfl, hb'⟩; replace HB := hid (HB.out.step hb'); replace hok := hok.step hb'; clear hb') | (go_at_call 13; refine (HAs.out.script _ HB.out).mono ?_; rintro e w' ⟨rfl, hb'⟩; replace HB := hid (HB.out.step hb'); replace hok := hok.step hb'; clear hb') | (go_at_call 14; refine (HAs.out.cls _ HB.out).mono ?_; rintro e w' ⟨rfl, hb'⟩; replace HB := hid (HB.out.step hb'); replace hok := hok.step hb'; clear hb') | (go_at_call 15; refine (HAs.out.join _ HB.out).mono ?_; rintro e w' ⟨rfl, hb'⟩; replace HB := hid (HB.out.step hb'); replace hok := hok.step hb'; clear hb'))
          go_roundg (zs.length - (k + 1))
          case measure => rw [HG.out]; omega
          case rel => exact ⟨k + 1, by omega, rfl, by go_num, hok, HB.out⟩
      · go_wp2_with fail
        refine (awake_any HB.out HA.out).mono ?_
        rintro e w2 ⟨rfl, hb2⟩
        replace hok := hok.step hb2
        go_wp2_with fail
        go_ret
        exact ⟨rfl, hok.1⟩

set_option maxRecDepth 100000 in
theorem lifted (os : Os) (started : os.Started) (H : Type) (enc : TypeId × Value → H) :
    ReturnsInHanded {} Try.checked os 6 .any (Rows.ucdMarksSpec.pre6 enc Try.prog Try.f6 Rows.ucdMarksRow.domain false) (Rows.ucdMarksSpec.post enc Try.prog Try.f6 false true false false) := by
  refine returnsInHanded_of_change (C := Try.checked) own started (by kernel_rfl) Try.func6
    (ChangeSpec.witness6 (enc := enc) (C := Try.checked) false ⟨#[], #[.slice none 0 0], []⟩ 8 (by kernel_rfl) (by kernel_rfl) (by kernel_rfl) (by kernel_rfl)) ?_
  intro W base args ds gs before hval0 hW hcnd _
  have hval : ∀ (j : Nat) t v, Try.f6.params[j]? = some t → args[j]? = some v → Value.okWide Try.prog W .any base t v := hval0
  have hW' := hW
  obtain ⟨p, q, hA0, hV, rfl, hfz, hnd⟩ := hW
  have hA : DataW.TrodAll enc Try.prog W 0 (fun _ => true) true Try.f6.params.toList args.toList ds p := hA0
  rw [Try.params6] at hA hval
  obtain ⟨v0, vs0, d0, ds0, p0, q0, hargs, rfl, rfl, h0, r0⟩ := trodAll_cons hA
  obtain ⟨rfl, rfl, rfl⟩ := trodAll_nil r0
  obtain rfl : args = #[v0] := by cases args; simp_all
  obtain ⟨rfl, rfl⟩ := trodVars_none hV
  obtain ⟨a0, len0, cap0, rfl⟩ := okWide_slice Try.underlying22 (hval 0 22 v0 rfl rfl)
  have k0 := h0
  have lt0 : ∀ x ∈ p0, x.block < W.heap.size := by obtain ⟨m, hm⟩ := k0; exact DataW.trod_lt m _ _ _ hm
  obtain ⟨z0, w0⟩ : ∃ zs, IsRow .i32 W a0 len0 cap0 zs := by
    obtain ⟨fuel, hf⟩ := h0
    rcases open_ints Try.underlying22 Try.underlying21 (by kernel_rfl) hf with ⟨hcs, _⟩ | ⟨x, l, c, zs, hcs, _, hl, hm, hz, _, hcell, hwz⟩
    · simp [Value.cells] at hcs
      obtain ⟨rfl, rfl, rfl⟩ := hcs
      exact ⟨[], .inl ⟨rfl, rfl, rfl, rfl⟩⟩
    · simp [Value.cells] at hcs
      obtain ⟨rfl, rfl, rfl⟩ := hcs
      exact ⟨zs, .inr ⟨_, rfl, hl, hm, by simpa using hz, hcell, hwz⟩⟩
  clear hA0 hval0
  refine (walk a0 len0 cap0 z0 W w0).mono fun e W' ⟨he, bel⟩ => ?_
  subst he
  exact ⟨_, rfl, _, _, _, [], _, [], hW', trodAll_mk1 (shut_bool Try.underlying4 _), (trodAll_cons_mk (Below.trod laidOut (by kernel_rfl) (of_decide_eq_true (by kernel_rfl)) k0 bel lt0) trodAll_mk0), rfl, bel.frame _, fun h => by cases h⟩

theorem over : Rows.ucdMarksRow.holds Try.pinned (OpenSpec.ofChange Rows.ucdMarksSpec) :=
  OpenClaim.holds_of_wide 6 Try.f6 rfl rfl rfl rfl rfl rfl rfl ⟨rfl, rfl, rfl, rfl, rfl⟩ rfl rfl rfl rfl rfl (by kernel_rfl) Try.func6 (by kernel_rfl)
    (of_decide_eq_true (by kernel_rfl)) (by unfold Func.isWrapper; first | (rw [if_pos (by decide +kernel)]; kernel_rfl) | (rw [if_neg (by decide +kernel)]; exact ⟨rfl, rfl⟩))
    (fun os started H enc _ => lifted os started H enc)

end Go.Proofs.Ytfbphacbnmimkaa.ucdMarks
namespace Go.Proofs.Ytfbphacbnmimkaa
theorem ucdMarks_holds : Rows.UcdMarksSaid := ucdMarks.over
#print axioms ucdMarks_holds
end Go.Proofs.Ytfbphacbnmimkaa
