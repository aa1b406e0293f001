/-
  For every slice l of runes and every int i the law OrderRuns returns true, and l reads behind the call as it read before. No condition.
-/
import Derived.Test.YtclcmkklonnalaaRows
import Derived.Test.YtclcmkklonnalaaOrd26x27
import Derived.WalkKit
import Derived.ProofKit
import Derived.OpenShut
import Derived.ShutString
import Derived.ChangeOld
import Derived.Below
namespace Go.Proofs.Ytclcmkklonnalaa.orderRuns
open Go.ChangeShapes Go.WideShapes Go.ChangeAt Go.RowKit
open Go.ChangeMaps (open_string shut_string)
set_option linter.unusedVariables false

theorem own : ownKnob Try.prog.godebug = none := by kernel_rfl
theorem laidOut : laidOutB Try.prog = true := by kernel_rfl

/-- WHAT THE WALK IS TOLD OF A SLICE OF INTEGERS THAT CAME IN: it is nil; or it leads to a row of 'cap' cells, the numbers 'zs' (the first 'len' are its elements, the rest its spare room), each fitting its kind. -/
def IsRow (k : IntKind) (w : World) (a : Option Addr) (len cap : Nat) (zs : List Int) : Prop :=
  (a = none ∧ len = 0 ∧ cap = 0 ∧ zs = []) ∨
  ∃ x, a = some x ∧ len ≤ cap ∧ cap ≤ maxLen ∧ zs.length = cap ∧ (∀ i, i < zs.length → w.cell? (x.add i) = some (.int k (zs.getD i 0))) ∧ ∀ n ∈ zs, (Lit.int k n).wf = true

open Od in
/-- What the law keeps. -/
structure LS (w : World) (b : Nat) (a0 : Option Addr) (cap0 len0 : Nat) (zs : List Int) (W : World) : Prop where
  ok : Ok w.heap.size w W
  bk : Bk W b
  p : SlP .i32 W a0 cap0 zs
  l : Sl .i32 W (.slice a0 len0 cap0) zs
open Od in
theorem LS.step {w : World} {b : Nat} {a0 : Option Addr} {cap0 len0 : Nat} {zs : List Int} {W W' : World} (h : LS w b a0 cap0 len0 zs W) (hb : Below W.heap.size W W') : LS w b a0 cap0 len0 zs W' :=
  ⟨h.ok.step hb, h.bk.step hb, h.p.step hb, h.l.step hb⟩
open Od in
set_option maxHeartbeats 8000000 in
set_option maxRecDepth 100000 in
theorem walk (a0 : Option Addr) (len0 cap0 : Nat) (z0 : List Int) (a1 : Int) (w : World) (w0 : IsRow .i32 w a0 len0 cap0 z0) (w1 : (Lit.int .i64 a1).wf = true) :
    Calls Try.prog 4 #[.slice a0 len0 cap0, .int .i64 a1] w fun e w' => e = .returned (.bool true) ∧ Below w.heap.size w w' := by
  obtain ⟨hlen, hS, hZ⟩ := row_sl w0
  have HZ := hid hZ
  have HS : Hid (Sl .i32 w (.slice a0 len0 cap0) (z0.take len0)) := ⟨a0, cap0, by rw [hlen], hS⟩
  have HSP := hid hS
  have HN := hid (newbook_any w)
  have hLen : Hid ((z0.take len0).length = len0) := hlen
  generalize z0.take len0 = zs at *
  clear w0 w1 hS hZ hlen
  have HO := hid (Ok.start w)
  by_cases hl : 24 < len0
  · go_enter Try.func4, Try.ntmps4
    go_wp2_with fail
    refine HN.out.mono ?_
    rintro e w' ⟨b, rfl, hb, hB⟩
    have HB := hid hB
    replace HO := hid (HO.out.step hb)
    clear hB hb
    go_wp2_with fail
    refine (awake_any HB.out).mono ?_
    rintro e w' ⟨rfl, hb⟩
    replace HO := hid (HO.out.step hb)
    clear hb
    go_wp2_with fail
    go_ret
    exact ⟨rfl, HO.out.1⟩
  · go_enter Try.func4, Try.ntmps4
    have hn : Hid (zs.length ≤ 1000000) := by show _ ≤ _; have := hLen.out; omega
    have hn0 : Hid (len0 ≤ 1000000) := by show _ ≤ _; omega
    go_wp2_with fail
    refine HN.out.mono ?_
    rintro e w' ⟨b, rfl, hb, hB⟩
    have HL : Hid (LS w b a0 cap0 len0 zs w') := ⟨HO.out.step hb, hB, HSP.out.step hb, HS.out.step hb⟩
    clear hB hb HN HO HSP HS
    go_wp2_with fail
    refine (oruns_any HL.out.bk HL.out.l hn.out).mono ?_
    rintro e w' ⟨vp, rfl, ⟨ap, cp, rfl, hp⟩, hb⟩
    have HP := hid hp
    replace HL := hid (HL.out.step hb)
    clear hp hb
    go_wp2_with fail
    refine (ints_any _ _ _ HL.out.l hn.out HZ.out).mono ?_
    rintro e w' ⟨vi, rfl, hs, hb⟩
    have HI := hid hs
    replace HL := hid (HL.out.step hb)
    replace HP := hid (HP.out.step hb)
    clear hs hb
    go_wp2_with fail
    refine (rruns_any HI.out hn.out).mono ?_
    rintro e w' ⟨vq, rfl, ⟨aq, cq, rfl, hq⟩, hb⟩
    have HQ := hid hq
    replace HL := hid (HL.out.step hb)
    replace HP := hid (HP.out.step hb)
    clear hq hb HI
    obtain ⟨R, hR⟩ : ∃ R, R = (runsP clsP zs).length := ⟨_, rfl⟩
    have HR := hid hR
    have hRb : R ≤ 1000 := by have h1 := runs_len clsP zs; have h2 := hLen.out; omega
    rw [← hR]
    clear hR
    have hlz : zs.length ≤ len0 := by have := hLen.out; omega
    go_wp2_with fail
    go_loopg [30] R (fun g vi wr => ∃ k : Nat, vi = .int .i64 k ∧ k ≤ R ∧ g = R - k ∧ Hid (LS w b a0 cap0 len0 zs wr ∧ PsP wr ap (runsP clsP zs) ∧ PsP wr aq (runsP clsP zs)))
    case atStart => exact ⟨0, rfl, Nat.zero_le _, rfl, HL.out, HP.out, HQ.out⟩
    case round =>
      clear HL HP HQ
      obtain ⟨k, rfl, hk, hg, H⟩ := hrel
      have HG := hid hg
      clear hg
      by_cases hlt : k < R
      · have hkr : k < (runsP clsP zs).length := by have := HR.out; omega
        obtain ⟨gp, rfl, _, p1, p2⟩ := H.out.2.1.at_ k hkr
        obtain ⟨gq, rfl, _, q1, q2⟩ := H.out.2.2.at_ k hkr
        generalize (runsP clsP zs)[k] = x at *
        obtain ⟨f, t⟩ := x
        simp only at p1 p2 q1 q2
        have p1d : wr.drew.cell? ⟨gp, k * 2, none⟩ = some (.int .i64 (f : Int)) := p1
        have p2d : wr.drew.cell? ⟨gp, k * 2 + 1, none⟩ = some (.int .i64 (t : Int)) := p2
        have q1d : wr.drew.cell? ⟨gq, k * 2, none⟩ = some (.int .i64 (f : Int)) := q1
        have q2d : wr.drew.cell? ⟨gq, k * 2 + 1, none⟩ = some (.int .i64 (t : Int)) := q2
        have hE2 := fun w => run_eq2 w (f : Int) (t : Int)
        have hG2 := Try.guard2
        have z1 : (k : Int) < (R : Int) := by omega
        have HD : Hid (LS w b a0 cap0 len0 zs wr.drew ∧ PsP wr.drew (some ⟨gp, 0, none⟩) (runsP clsP zs) ∧ PsP wr.drew (some ⟨gq, 0, none⟩) (runsP clsP zs)) := ⟨H.out.1.step ((Below.refl _ _).drew), H.out.2.1.step ((Below.refl _ _).drew), H.out.2.2.step ((Below.refl _ _).drew)⟩
        go_wp2_with fail
        go_region
        go_wp2_with fail
        go_roundg (R - (k + 1))
        case measure => rw [HG.out]; omega
        case rel => exact ⟨k + 1, by go_num, by omega, rfl, HD.out⟩
      · have z1 : ¬ (k : Int) < (R : Int) := by omega
        have HL := hid H.out.1
        clear H
        by_cases hin : a1 < 0 ∨ (len0 : Int) ≤ a1
        · have HS1 := hid (fun W => start_out b a0 cap0 len0 a1 hin W)
          have HB1 := hid (fun W => blocked_out b a0 cap0 len0 a1 hin W)
          by_cases hneg : a1 < 0
          · clear hin
            go_wp2_with fail
            refine (HS1.out _).mono ?_
            rintro e w2 ⟨rfl, hw2⟩
            rw [hw2]
            clear hw2 w2
            go_wp2_with fail
            refine (HB1.out _).mono ?_
            rintro e w2 ⟨rfl, hb⟩
            replace HL := hid (HL.out.step hb)
            clear hb
            go_wp2_with fail
            refine (awake_any HL.out.bk).mono ?_
            rintro e w3 ⟨rfl, hb⟩
            replace HL := hid (HL.out.step hb)
            clear hb
            go_wp2_with fail
            go_ret
            exact ⟨rfl, HL.out.ok.1⟩
          · have hge : (len0 : Int) ≤ a1 := by omega
            clear hin
            go_wp2_with fail
            refine (HS1.out _).mono ?_
            rintro e w2 ⟨rfl, hw2⟩
            rw [hw2]
            clear hw2 w2
            go_wp2_with fail
            refine (HB1.out _).mono ?_
            rintro e w2 ⟨rfl, hb⟩
            replace HL := hid (HL.out.step hb)
            clear hb
            go_wp2_with fail
            refine (awake_any HL.out.bk).mono ?_
            rintro e w3 ⟨rfl, hb⟩
            replace HL := hid (HL.out.step hb)
            clear hb
            go_wp2_with fail
            go_ret
            exact ⟨rfl, HL.out.ok.1⟩
        · obtain ⟨i, rfl⟩ : ∃ i : Nat, a1 = (i : Int) := ⟨a1.toNat, by omega⟩
          have hil : i < len0 := by omega
          have hneg : ¬ (i : Int) < 0 := by omega
          have hge : ¬ (len0 : Int) ≤ (i : Int) := by omega
          have hged : decide ((len0 : Int) ≤ (i : Int)) = false := decide_eq_false hge
          clear hin
          go_wp2_with fail
          refine (start_any HL.out.bk hLen.out HL.out.p hn0.out i hil).mono ?_
          rintro e w2 ⟨rfl, hb⟩
          replace HL := hid (HL.out.step hb)
          clear hb
          go_wp2_with fail
          refine (ints_any _ _ _ HL.out.l hn.out HZ.out).mono ?_
          rintro e w2 ⟨v2, rfl, ⟨ad2, cp2, rfl, hs⟩, hb⟩
          have HI := hid hs
          replace HL := hid (HL.out.step hb)
          rw [hLen.out]
          clear hs hb
          go_wp2_with fail
          refine (rstart_any hLen.out HI.out hn0.out i (by omega)).mono ?_
          rintro e w2 ⟨rfl, hb⟩
          replace HL := hid (HL.out.step hb)
          clear hb HI
          generalize startN clsP zs i = st at *
          go_wp2_with fail
          refine (blocked_any HL.out.bk hLen.out HL.out.p hn0.out i hil).mono ?_
          rintro e w2 ⟨rfl, hb⟩
          replace HL := hid (HL.out.step hb)
          clear hb
          go_wp2_with fail
          refine (ints_any _ _ _ HL.out.l hn.out HZ.out).mono ?_
          rintro e w2 ⟨v3, rfl, ⟨ad3, cp3, rfl, hs⟩, hb⟩
          have HI := hid hs
          replace HL := hid (HL.out.step hb)
          rw [hLen.out]
          clear hs hb
          go_wp2_with fail
          refine (rblocked_any hLen.out HI.out hn0.out i hil).mono ?_
          rintro e w2 ⟨rfl, hb⟩
          replace HL := hid (HL.out.step hb)
          clear hb HI
          generalize blockedP clsP zs i = bl at *
          go_wp2_with fail
          refine (awake_any HL.out.bk).mono ?_
          rintro e w3 ⟨rfl, hb⟩
          replace HL := hid (HL.out.step hb)
          clear hb
          go_wp2_with fail
          go_ret
          exact ⟨rfl, HL.out.ok.1⟩

set_option maxRecDepth 100000 in
theorem lifted (os : Os) (started : os.Started) (H : Type) (enc : TypeId × Value → H) :
    ReturnsInHanded {} Try.checked os 4 .any (Rows.orderRunsSpec.pre6 enc Try.prog Try.f4 Rows.orderRunsRow.domain false) (Rows.orderRunsSpec.post enc Try.prog Try.f4 false true false false) := by
  refine returnsInHanded_of_change (C := Try.checked) own started (by kernel_rfl) Try.func4
    (ChangeSpec.witness6 (enc := enc) (C := Try.checked) false ⟨#[], #[.slice none 0 0, .int .i64 0], []⟩ 8 (by kernel_rfl) (by kernel_rfl) (by kernel_rfl) (by kernel_rfl)) ?_
  intro W base args ds gs before hval0 hW hcnd _
  have hval : ∀ (j : Nat) t v, Try.f4.params[j]? = some t → args[j]? = some v → Value.okWide Try.prog W .any base t v := hval0
  have hW' := hW
  obtain ⟨p, q, hA0, hV, rfl, hfz, hnd⟩ := hW
  have hA : DataW.TrodAll enc Try.prog W 0 (fun _ => true) true Try.f4.params.toList args.toList ds p := hA0
  rw [Try.params4] at hA hval
  obtain ⟨v0, vs0, d0, ds0, p0, q0, hargs, rfl, rfl, h0, r0⟩ := trodAll_cons hA
  obtain ⟨v1, vs1, d1, ds1, p1, q1, rfl, rfl, rfl, h1, r1⟩ := trodAll_cons r0
  obtain ⟨rfl, rfl, rfl⟩ := trodAll_nil r1
  obtain rfl : args = #[v0, v1] := by cases args; simp_all
  obtain ⟨rfl, rfl⟩ := trodVars_none hV
  obtain ⟨a0, len0, cap0, rfl⟩ := okWide_slice Try.underlying22 (hval 0 22 v0 rfl rfl)
  have k0 := h0
  have lt0 : ∀ x ∈ p0, x.block < W.heap.size := by obtain ⟨m, hm⟩ := k0; exact DataW.trod_lt m _ _ _ hm
  obtain ⟨z0, w0⟩ : ∃ zs, IsRow .i32 W a0 len0 cap0 zs := by
    obtain ⟨fuel, hf⟩ := h0
    rcases open_ints Try.underlying22 Try.underlying21 (by kernel_rfl) hf with ⟨hcs, _⟩ | ⟨x, l, c, zs, hcs, _, hl, hm, hz, _, hcell, hwz⟩
    · simp [Value.cells] at hcs
      obtain ⟨rfl, rfl, rfl⟩ := hcs
      exact ⟨[], .inl ⟨rfl, rfl, rfl, rfl⟩⟩
    · simp [Value.cells] at hcs
      obtain ⟨rfl, rfl, rfl⟩ := hcs
      exact ⟨zs, .inr ⟨_, rfl, hl, hm, by simpa using hz, hcell, hwz⟩⟩
  obtain ⟨a1, rfl, rfl, rfl, w1⟩ := open_int Try.underlying3 (hval 1 3 v1 rfl rfl) h1
  clear hA0 hval0
  refine (walk a0 len0 cap0 z0 a1 W w0 w1).mono fun e W' ⟨he, bel⟩ => ?_
  subst he
  exact ⟨_, rfl, _, _, _, [], _, [], hW', trodAll_mk1 (shut_bool Try.underlying4 _), (trodAll_cons_mk (Below.trod laidOut (by kernel_rfl) (of_decide_eq_true (by kernel_rfl)) k0 bel lt0) (trodAll_cons_mk (shut_int Try.underlying3 w1) trodAll_mk0)), rfl, bel.frame _, fun h => by cases h⟩

theorem over : Rows.orderRunsRow.holds Try.pinned (OpenSpec.ofChange Rows.orderRunsSpec) :=
  OpenClaim.holds_of_wide 4 Try.f4 rfl rfl rfl rfl rfl rfl rfl ⟨rfl, rfl, rfl, rfl, rfl⟩ rfl rfl rfl rfl rfl (by kernel_rfl) Try.func4 (by kernel_rfl)
    (of_decide_eq_true (by kernel_rfl)) (by unfold Func.isWrapper; first | (rw [if_pos (by decide +kernel)]; kernel_rfl) | (rw [if_neg (by decide +kernel)]; exact ⟨rfl, rfl⟩))
    (fun os started H enc _ => lifted os started H enc)

end Go.Proofs.Ytclcmkklonnalaa.orderRuns
namespace Go.Proofs.Ytclcmkklonnalaa
theorem orderRuns_holds : Rows.OrderRunsSaid := orderRuns.over
#print axioms orderRuns_holds
end Go.Proofs.Ytclcmkklonnalaa
