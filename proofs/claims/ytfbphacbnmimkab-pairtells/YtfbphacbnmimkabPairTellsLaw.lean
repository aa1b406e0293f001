/-
  For every slice l of runes the law PairTells returns true, and l reads behind the call as it read before. No condition.
-/
import Derived.Test.YtfbphacbnmimkabRows
import Derived.Test.YtfbphacbnmimkabPr16
import Derived.WalkKit
import Derived.ProofKit
import Derived.OpenShut
import Derived.ShutString
import Derived.ChangeOld
import Derived.Below
namespace Go.Proofs.Ytfbphacbnmimkab.pairTells
open Go.ChangeShapes Go.WideShapes Go.ChangeAt Go.RowKit
open Go.ChangeMaps (open_string shut_string)
set_option linter.unusedVariables false

theorem own : ownKnob Try.prog.godebug = none := by kernel_rfl
theorem laidOut : laidOutB Try.prog = true := by kernel_rfl

/-- WHAT THE WALK IS TOLD OF A SLICE OF INTEGERS THAT CAME IN: it is nil; or it leads to a row of 'cap' cells, the numbers 'zs' (the first 'len' are its elements, the rest its spare room), each fitting its kind. -/
def IsRow (k : IntKind) (w : World) (a : Option Addr) (len cap : Nat) (zs : List Int) : Prop :=
  (a = none ∧ len = 0 ∧ cap = 0 ∧ zs = []) ∨
  ∃ x, a = some x ∧ len ≤ cap ∧ cap ≤ maxLen ∧ zs.length = cap ∧ (∀ i, i < zs.length → w.cell? (x.add i) = some (.int k (zs.getD i 0))) ∧ ∀ n ∈ zs, (Lit.int k n).wf = true

/-- Runes as they are read. -/
def RunesIn (w : World) (a : Option Addr) (zs : List Int) : Prop := ∀ k (h : k < zs.length), ∃ b off, a = some ⟨b, off, none⟩ ∧ b < w.heap.size ∧ w.cell? ⟨b, off + k, none⟩ = some (.int .i32 zs[k])
theorem runes_of_row {w : World} {a : Option Addr} {len cap : Nat} {zs : List Int} (h : IsRow .i32 w a len cap zs) : (zs.take len).length = len ∧ RunesIn w a (zs.take len) ∧ ∀ y ∈ zs.take len, -2147483648 ≤ y ∧ y ≤ 2147483647 := by
  rcases h with ⟨rfl, rfl, rfl, rfl⟩ | ⟨x, rfl, hl, hm, hz, hcell, hwz⟩
  · exact ⟨rfl, fun k hk => by simp at hk, fun y hy => by simp at hy⟩
  · have hlen : (zs.take len).length = len := by rw [List.length_take]; omega
    refine ⟨hlen, fun k hk => ?_, fun y hy => by have h := hwz y (List.mem_of_mem_take hy); simp only [Lit.wf, Bool.and_eq_true, decide_eq_true_eq] at h; exact h⟩
    rw [hlen] at hk
    obtain ⟨b, off, spot⟩ := x
    have hc := hcell k (by omega)
    have hspot : spot = none := by simpa [Addr.add] using World.cell?_spot (hcell 0 (by omega))
    subst hspot
    have hadd : (⟨b, off, none⟩ : Addr).add k = ⟨b, off + k, none⟩ := by unfold Addr.add; split <;> simp_all
    rw [hadd] at hc
    refine ⟨b, off, rfl, World.block_lt_of_cell? w _ hc, ?_⟩
    rw [hc, List.getElem_take]
    simp [List.getD_eq_getElem?_getD, List.getElem?_eq_getElem (show k < zs.length by omega)]

theorem Try.guard2 : Try.prog.eqGuardType Try.prog.depth 30 = false := by kernel_rfl
theorem run_eq2 (w : World) (a b : Int) : (Op.equalIn 10000 30 (.agg #[.int .i64 a, .int .i64 b]) (.agg #[.int .i64 a, .int .i64 b])).run Try.prog w = .ok true w := by
  have hs : (Try.prog.info? 3).isSome = true := by kernel_rfl
  obtain ⟨i, hi⟩ := Option.isSome_iff_exists.1 hs
  have hc : Try.prog.cellsOf 3 = 1 := by kernel_rfl
  rw [show 10000 = 9999 + 1 from rfl, run_equalIn_array w 9999 _ _ Try.underlying30 hi, hc]
  have hp : ∀ (cs : Array Value) (off : Nat) (w : World), (part 3 cs off).run Try.prog w = (match cs[off]? with | some v => Result.ok v w | none => (part 3 cs off).run Try.prog w) := fun cs off w => by
    cases h : cs[off]? with
    | none => rfl
    | some v => simp [part, isAgg, run_underlying Try.underlying3, h]
  have he : ∀ (a b : Int) (w : World), (Op.equalIn 9999 3 (.int .i64 a) (.int .i64 b)).run Try.prog w = .ok (a == b) w := fun a b w => run_equalIn_int w 9998 3 .i64 .i64 a b Try.underlying3
  simp [List.range, List.range.loop, Op.eqItems, hp, he]
theorem rd_eq (r : Int) : rdP r allP = (d1 r, d2 r, d3 r) := rd_dn r

set_option maxHeartbeats 4000000 in
set_option maxRecDepth 100000 in
theorem walk (a0 : Option Addr) (len0 cap0 : Nat) (z0 : List Int) (w : World) (w0 : IsRow .i32 w a0 len0 cap0 z0) :
    Calls Try.prog 3 #[.slice a0 len0 cap0] w fun e w' => e = .returned (.bool true) ∧ Below w.heap.size w w' := by
  obtain ⟨hlen, hR, hZ⟩ := runes_of_row w0
  have HN := hid (new_any w)
  have HAw := hid (fun (w : World) (p d u s : Nat) (h : PW w p d u s allP 395) => awake_any h)
  have HLn := hid (fun (w : World) (p d u s : Nat) (h : PW w p d u s allP 395) => len_any h)
  have HRA := hid (fun w => rall_any w)
  have HQ := hid (fun (g cap : Nat) (w : World) (p d u s : Nat) (r : Int) (hr : I32 r) => And.intro (fun (h : PW w p d u s allP 395) => down_g h hr) (And.intro (fun (h : PW w p d u s allP 395) => ex_g h hr) (And.intro (fun (h : PW w p d u s allP 395) => sec_g h hr)
    (And.intro (fun (h : RR3 w g allP) => rdown_any (cap := cap) h (by rw [all_lenP]; decide) r (rd_eq r)) (And.intro (fun (h : RR3 w g allP) => rex_any (cap := cap) h (by rw [all_lenP]; decide) r) (fun (h : RR3 w g allP) => rsec_any (cap := cap) h (by rw [all_lenP]; decide) r))))))
  have hE1 := fun r => rex_eq r
  have hE2 := fun r => rs_eq r
  simp only [hE1, hE2] at HQ
  have h395 : allP.length = 395 := all_lenP
  have hpos : 0 < allP.length := by rw [h395]; decide
  rw [h395] at HRA HQ
  have HROwn := hid (fun (w : World) (B : Nat) (v : Value) (h : w.ownsRow B 57 3 v 395 (allP.flatMap rc3)) => (by rw [← h395] at h; have h2 := rr3_of_own h hpos; rw [h395] at h2; exact h2 : ∃ g cap, v = .slice (some ⟨g, 0, none⟩) 395 cap ∧ RR3 w g allP))
  have HR := hid (And.intro hR hZ)
  have hgd := Try.guard2
  have heq := run_eq2
  clear hE1 hE2 h395 hpos
  generalize z0.take len0 = zs at *
  generalize allP = L at *
  clear w0 hR hZ
  subst hlen
  have h0 := Ok.start w
  by_cases hl : 40 < zs.length
  · go_enter Try.func3, Try.ntmps3
    go_wp2_with fail
    refine HN.out.mono ?_
    rintro e w1 ⟨p, d, u, s, rfl, hP1, hb1⟩
    have HP := hid hP1
    replace h0 := h0.step hb1
    clear hP1 hb1
    go_wp2_with fail
    refine (HAw.out _ _ _ _ _ HP.out).mono ?_
    rintro e w2 ⟨rfl, hb2⟩
    replace h0 := h0.step hb2
    go_wp2_with fail
    go_ret
    exact ⟨rfl, h0.1⟩
  · go_enter Try.func3, Try.ntmps3
    go_wp2_with fail
    refine HN.out.mono ?_
    rintro e w1 ⟨p, d, u, s, rfl, hP1, hb1⟩
    have HP := hid hP1
    replace h0 := h0.step hb1
    clear hP1 hb1 HN
    go_wp2_with fail
    refine (HRA.out _).mono ?_
    rintro e w2 ⟨v2, rfl, ho2, hb2⟩
    obtain ⟨g, cap, rfl, hr2⟩ := HROwn.out _ _ _ ho2
    have HRR := hid hr2
    replace HP := hid (HP.out.step hb2)
    replace h0 := h0.step hb2
    clear ho2 hb2 hr2 HRA HROwn
    go_wp2_with fail
    go_loopg [23] zs.length (fun gg i wr => ∃ k : Nat, k ≤ zs.length ∧ gg = zs.length - k ∧ i = .int .i64 k ∧ Hid (Ok w.heap.size w wr ∧ PW wr p d u s L 395 ∧ RR3 wr g L))
    case atStart => exact ⟨0, Nat.zero_le _, by omega, rfl, h0, HP.out, HRR.out⟩
    case round =>
      clear h0 HP HRR
      obtain ⟨k, hk, hg, rfl, H⟩ := hrel
      have HG := hid hg
      have hok := H.out.1
      have HP := hid H.out.2.1
      have HRR := hid H.out.2.2
      clear hg H
      by_cases hlt : k < zs.length
      · obtain ⟨bb, off, rfl, hbl, hc⟩ := HR.out.1 k hlt
        have hc' := (hok.1.cell (p := ⟨bb, off + k, none⟩) hbl).trans hc
        have hr : I32 zs[k] := HR.out.2 zs[k] (List.getElem_mem hlt)
        clear hc hbl HR
        generalize zs[k] = r at *
        have HD := hid (fun w h => (HQ.out g cap w p d u s r hr).1 h)
        have HX := hid (fun w h => (HQ.out g cap w p d u s r hr).2.1 h)
        have HS := hid (fun w h => (HQ.out g cap w p d u s r hr).2.2.1 h)
        have HRD := hid (fun w h => (HQ.out g cap w p d u s r hr).2.2.2.1 h)
        have HRX := hid (fun w h => (HQ.out g cap w p d u s r hr).2.2.2.2.1 h)
        have HRS := hid (fun w h => (HQ.out g cap w p d u s r hr).2.2.2.2.2 h)
        obtain ⟨⟨q0, q1⟩, ⟨q2, q3⟩, q4, q5⟩ := d_bd r
        obtain ⟨r0, r1⟩ := hr
        clear HQ
        generalize d1 r = x1 at *
        generalize d2 r = x2 at *
        generalize d3 r = x3 at *
        generalize exq r = ex at *
        generalize s1 r = sx at *
        go_wp2_with (first | (go_at_call 10; refine (HD.out _ HP.out).mono ?_; rintro e w2 ⟨rfl, hb2⟩; replace hok := hok.step hb2; replace HP := hid (HP.out.step hb2); replace HRR := hid (HRR.out.step hb2); clear hb2) | (go_at_call 11; refine (HRD.out _ HRR.out).mono ?_; rintro e w2 ⟨rfl, hb2⟩; replace hok := hok.step hb2; replace HP := hid (HP.out.step hb2); replace HRR := hid (HRR.out.step hb2); clear hb2) | (go_at_call 12; refine (HX.out _ (HP.out.step ((Below.refl _ _).alloc (Nat.le_refl _) _))).mono ?_; rintro e w2 ⟨rfl, rfl⟩) | (go_at_call 13; refine (HRX.out _ (HRR.out.step ((Below.refl _ _).alloc (Nat.le_refl _) _))).mono ?_; rintro e w2 ⟨rfl, hb2⟩; replace hok := hok.alloc.step hb2; replace HP := hid ((HP.out.step ((Below.refl _ _).alloc (Nat.le_refl _) _)).step hb2); replace HRR := hid ((HRR.out.step ((Below.refl _ _).alloc (Nat.le_refl _) _)).step hb2); clear hb2) | (go_at_call 14; refine (HS.out _ HP.out).mono ?_; rintro e w2 ⟨rfl, rfl⟩) | (go_at_call 15; refine (HRS.out _ HRR.out).mono ?_; rintro e w2 ⟨rfl, hb2⟩; replace hok := hok.step hb2; replace HP := hid (HP.out.step hb2); replace HRR := hid (HRR.out.step hb2); clear hb2))
        go_roundg (zs.length - (k + 1))
        case measure => rw [HG.out]; omega
        case rel => exact ⟨k + 1, by omega, rfl, by go_num, hok, HP.out, HRR.out⟩
      · go_wp2_with (first | (go_at_call 16; refine (HLn.out _ _ _ _ _ HP.out).mono ?_; rintro e w2 ⟨rfl, rfl⟩) | (go_at_call 8; refine (HAw.out _ _ _ _ _ HP.out).mono ?_; rintro e w2 ⟨rfl, hb2⟩; replace hok := hok.step hb2; clear hb2))
        go_ret
        exact ⟨rfl, hok.1⟩

set_option maxRecDepth 100000 in
theorem lifted (os : Os) (started : os.Started) (H : Type) (enc : TypeId × Value → H) :
    ReturnsInHanded {} Try.checked os 3 .any (Rows.pairTellsSpec.pre6 enc Try.prog Try.f3 Rows.pairTellsRow.domain false) (Rows.pairTellsSpec.post enc Try.prog Try.f3 false true false false) := by
  refine returnsInHanded_of_change (C := Try.checked) own started (by kernel_rfl) Try.func3
    (ChangeSpec.witness6 (enc := enc) (C := Try.checked) false ⟨#[], #[.slice none 0 0], []⟩ 8 (by kernel_rfl) (by kernel_rfl) (by kernel_rfl) (by kernel_rfl)) ?_
  intro W base args ds gs before hval0 hW hcnd _
  have hval : ∀ (j : Nat) t v, Try.f3.params[j]? = some t → args[j]? = some v → Value.okWide Try.prog W .any base t v := hval0
  have hW' := hW
  obtain ⟨p, q, hA0, hV, rfl, hfz, hnd⟩ := hW
  have hA : DataW.TrodAll enc Try.prog W 0 (fun _ => true) true Try.f3.params.toList args.toList ds p := hA0
  rw [Try.params3] at hA hval
  obtain ⟨v0, vs0, d0, ds0, p0, q0, hargs, rfl, rfl, h0, r0⟩ := trodAll_cons hA
  obtain ⟨rfl, rfl, rfl⟩ := trodAll_nil r0
  obtain rfl : args = #[v0] := by cases args; simp_all
  obtain ⟨rfl, rfl⟩ := trodVars_none hV
  obtain ⟨a0, len0, cap0, rfl⟩ := okWide_slice Try.underlying22 (hval 0 22 v0 rfl rfl)
  have k0 := h0
  have lt0 : ∀ x ∈ p0, x.block < W.heap.size := by obtain ⟨m, hm⟩ := k0; exact DataW.trod_lt m _ _ _ hm
  obtain ⟨z0, w0⟩ : ∃ zs, IsRow .i32 W a0 len0 cap0 zs := by
    obtain ⟨fuel, hf⟩ := h0
    rcases open_ints Try.underlying22 Try.underlying21 (by kernel_rfl) hf with ⟨hcs, _⟩ | ⟨x, l, c, zs, hcs, _, hl, hm, hz, _, hcell, hwz⟩
    · simp [Value.cells] at hcs
      obtain ⟨rfl, rfl, rfl⟩ := hcs
      exact ⟨[], .inl ⟨rfl, rfl, rfl, rfl⟩⟩
    · simp [Value.cells] at hcs
      obtain ⟨rfl, rfl, rfl⟩ := hcs
      exact ⟨zs, .inr ⟨_, rfl, hl, hm, by simpa using hz, hcell, hwz⟩⟩
  clear hA0 hval0
  refine (walk a0 len0 cap0 z0 W w0).mono fun e W' ⟨he, bel⟩ => ?_
  subst he
  exact ⟨_, rfl, _, _, _, [], _, [], hW', trodAll_mk1 (shut_bool Try.underlying4 _), (trodAll_cons_mk (Below.trod laidOut (by kernel_rfl) (of_decide_eq_true (by kernel_rfl)) k0 bel lt0) trodAll_mk0), rfl, bel.frame _, fun h => by cases h⟩

theorem over : Rows.pairTellsRow.holds Try.pinned (OpenSpec.ofChange Rows.pairTellsSpec) :=
  OpenClaim.holds_of_wide 3 Try.f3 rfl rfl rfl rfl rfl rfl rfl ⟨rfl, rfl, rfl, rfl, rfl⟩ rfl rfl rfl rfl rfl (by kernel_rfl) Try.func3 (by kernel_rfl)
    (of_decide_eq_true (by kernel_rfl)) (by unfold Func.isWrapper; first | (rw [if_pos (by decide +kernel)]; kernel_rfl) | (rw [if_neg (by decide +kernel)]; exact ⟨rfl, rfl⟩))
    (fun os started H enc _ => lifted os started H enc)

end Go.Proofs.Ytfbphacbnmimkab.pairTells
namespace Go.Proofs.Ytfbphacbnmimkab
theorem pairTells_holds : Rows.PairTellsSaid := pairTells.over
#print axioms pairTells_holds
end Go.Proofs.Ytfbphacbnmimkab
