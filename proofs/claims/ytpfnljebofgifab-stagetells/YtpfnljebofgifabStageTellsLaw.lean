/-
  For every slice l of rows, every uint8 other and every slice ask of runes the law StageTells returns true, and all read behind the call as they read before. No condition.
-/
import Derived.Test.YtpfnljebofgifabRows
import Derived.Test.YtpfnljebofgifabStg17
import Derived.WalkKit
import Derived.ProofKit
import Derived.OpenShut
import Derived.ShutString
import Derived.ChangeOld
import Derived.Below
namespace Go.Proofs.Ytpfnljebofgifab.stageTells
open Go.ChangeShapes Go.WideShapes Go.ChangeAt Go.RowKit
open Go.ChangeMaps (open_string shut_string)
set_option linter.unusedVariables false

theorem own : ownKnob Try.prog.godebug = none := by kernel_rfl
theorem laidOut : laidOutB Try.prog = true := by kernel_rfl

theorem walk_big (ao : Option Addr) (n cap : Nat) (a1 : Int) (ao2 : Option Addr) (n2 cap2 : Nat) (w : World) (h : 60 < n ∨ 60 < n2) (hn : n ≤ maxLen) (hn2 : n2 ≤ maxLen) :
    Calls Try.prog 3 #[.slice ao n cap, .int .u8 a1, .slice ao2 n2 cap2] w fun e w' => e = .returned (.bool true) ∧ Below w.heap.size w w' := by
  have hok := Ok.start w
  unfold maxLen at hn hn2
  by_cases h1 : 60 < n
  · have h2 : (60 : Int) < (n : Int) := by omega
    go_enter Try.func3, Try.ntmps3
    go_wp2_with (go_at_call 6; refine (awake_any _).mono ?_; rintro e w' ⟨rfl, hb'⟩; replace hok := hok.step hb'; clear hb')
    go_ret
    exact ⟨rfl, hok.1⟩
  · have h2 : ¬ (60 : Int) < (n : Int) := by omega
    have h3 : (60 : Int) < (n2 : Int) := by omega
    go_enter Try.func3, Try.ntmps3
    go_wp2_with (go_at_call 6; refine (awake_any _).mono ?_; rintro e w' ⟨rfl, hb'⟩; replace hok := hok.step hb'; clear hb')
    go_ret
    exact ⟨rfl, hok.1⟩

set_option maxHeartbeats 4000000 in
set_option maxRecDepth 100000 in
theorem walk (v0 : Value) (x0 : List (SRow Int)) (a1 : Int) (v2 : Value) (x2 : List Int) (w : World) (w0 : LIn w v0 x0 ∧ x0.length ≤ maxLen) (w1 : (Lit.int .u8 a1).wf = true) (w2 : (AskSl w v2 x2 ∧ ∀ z ∈ x2, (Lit.int .i32 z).wf = true) ∧ x2.length ≤ maxLen) :
    Calls Try.prog 3 #[v0, .int .u8 a1, v2] w fun e w' => e = .returned (.bool true) ∧ Below w.heap.size w w' := by
  obtain ⟨hl, hlm⟩ := w0
  obtain ⟨⟨hq, hqw⟩, hqm⟩ := w2
  have hqr : Hid (∀ z ∈ x2, -2147483648 ≤ z ∧ z ≤ 2147483647) := fun z hz => ok_i32 (hqw z hz)
  clear hqw
  have hok := Ok.start w
  have HLs := hid hl
  obtain ⟨ao, cap, rfl, _⟩ := hl
  have HQ := hid hq
  obtain ⟨ao2, cap2, rfl, _⟩ := hq
  by_cases hbig : 60 < x0.length ∨ 60 < x2.length
  · exact walk_big _ _ _ _ _ _ _ _ hbig hlm hqm
  · have h60 : x0.length ≤ 60 := by omega
    have k60 : x2.length ≤ 60 := by omega
    have z1 : ¬ (60 : Int) < (x0.length : Int) := by omega
    have z2 : ¬ (60 : Int) < (x2.length : Int) := by omega
    have ha := ok_u8 w1
    have q1 : wrap64 a1 = a1 := by unfold wrap64; omega
    clear hbig hlm hqm w1
    go_enter Try.func3, Try.ntmps3
    go_wp2_with fail
    refine (rows_any HLs.out h60).mono ?_
    rintro e W1 ⟨av, bv, rfl, hR⟩
    replace hok := hok.step hR.bel
    have HB := hid (build_any (vin_own hR.a) (by unfold maxLen; omega) a1)
    have HRI := hid (rin_own hR.b)
    obtain ⟨ao3, cap3, rfl⟩ := own_slice hR.a
    obtain ⟨ao4, cap4, rfl⟩ := own_slice hR.b
    replace HLs := hid (HLs.out.step hR.bel)
    replace HQ := hid (HQ.out.step hR.bel)
    clear hR
    go_wp2_with fail
    refine HB.out.mono ?_
    rintro e W2 ⟨hb2, ⟨hc, rfl⟩ | ⟨hc, p, hp, rfl, ht⟩⟩
    · replace hok := hok.step hb2
      have HRC := hid (rcheck_any (HRI.out.step hb2) h60)
      have hc1 : (check x0 == 0) = false := by simpa using hc
      clear HRI HLs HQ hb2 HB
      go_wp2_with fail
      refine HRC.out.mono ?_
      rintro e W3 ⟨rfl, n3, hw3⟩
      have hok3 : Ok w.heap.size w W3 := by rw [hw3]; exact ⟨below_drewN hok.1 _, hok.2⟩
      clear hw3 hok HRC
      generalize check x0 = c at *
      go_wp2_with (go_at_call 6; refine (awake_any _).mono ?_; rintro e w' ⟨rfl, hb'⟩; replace hok3 := hok3.step hb'; clear hb')
      go_ret
      exact ⟨rfl, hok3.1⟩
    · replace hok := hok.step hb2
      have HRC := hid (rcheck_any (HRI.out.step hb2) h60)
      replace HRI := hid (HRI.out.step hb2)
      replace HLs := hid (HLs.out.step hb2)
      replace HQ := hid (HQ.out.step hb2)
      have HT := hid ht
      have hris : Hid (Rising (-1) x0) := by
        rw [check, if_neg (by omega)] at hc
        exact rising_of_chk x0 (-1) (by omega) hc
      rw [hc] at HRC
      clear hb2 HB ht
      go_wp2_with fail
      refine HRC.out.mono ?_
      rintro e W3 ⟨rfl, n3, hw3⟩
      have bel3 : Below W2.heap.size W2 W3 := by rw [hw3]; exact below_drewN (Below.refl _ _) _
      replace hok := hok.step bel3
      replace HRI := hid (HRI.out.step bel3)
      replace HLs := hid (HLs.out.step bel3)
      replace HQ := hid (HQ.out.step bel3)
      replace HT := hid (HT.out.step bel3)
      clear hw3 bel3 HRC
      go_wp2_with fail
      go_loopg [60, 2] x0.length (fun g i qv wr => ∃ (k : Nat) (qs : List Int), k ≤ x0.length ∧ g = x0.length - k ∧ i = .int .i64 k ∧ qs.length ≤ 60 + 4 * k ∧ Hid (∀ z ∈ qs, -2147483648 ≤ z ∧ z ≤ 2147483647) ∧ AskSl wr qv qs ∧ Ok w.heap.size w wr ∧ Tab wr p x0 a1 ∧ RIn wr (.slice ao4 x0.length cap4) x0 ∧ LIn wr (.slice ao x0.length cap) x0)
      case atStart => exact ⟨0, x2, Nat.zero_le _, by omega, rfl, by omega, hqr, HQ.out, hok, HT.out, HRI.out, HLs.out⟩
      case round =>
        clear HQ HT HRI HLs hok
        clear hqr
        obtain ⟨k, qs, hk, hg, rfl, hqs, hqr, hQ, hok, hT, hRI, hL⟩ := hrel
        have HG := hid hg
        clear hg
        by_cases hlt : k < x0.length
        · obtain ⟨ao5, cap5, rfl, hn5, hcp5, hc5⟩ := hQ
          have hLk := hL
          obtain ⟨ao6, cap6, e6, hc6⟩ := hLk
          cases e6
          obtain ⟨hro, gb, off, rfl, hgb, d0, d1, d2⟩ := hc6 k hlt
          have hxr : Hid (0 ≤ x0[k].f ∧ x0[k].t ≤ 1114111 ∧ x0[k].f ≤ x0[k].t) := by
            have hf := rising_fine x0 (-1) hris.out x0[k] (List.getElem_mem hlt)
            have := (rising_after x0 (-1) hris.out k x0[k] (List.getElem?_eq_getElem hlt)).1
            exact ⟨by omega, hf.2, hf.1⟩
          generalize x0[k] = x at *
          obtain ⟨xf, xt, xv⟩ := x
          simp only at d0 d1 d2
          obtain ⟨r0, r1, r2⟩ := hxr.out
          simp only at r0 r1 r2
          have HST := hid (fun (W : World) (hb : Below wr.heap.size wr W) => And.intro (hok.step hb) (And.intro (hT.step hb) (And.intro (hRI.step hb) (hL.step hb))))
          have HC5 := hid (fun (W : World) (hb : Below wr.heap.size wr W) => (AskSl.step (qs := qs) ⟨ao5, cap5, rfl, hn5, hcp5, hc5⟩ hb))
          have hn5' : Hid (ao5 = none → qs.length = 0) := fun e => by have := hn5 e; omega
          have hcp : (qs.length : Int) ≤ (cap5 : Int) := by omega
          have t1 : IntKind.i32.wrap (xf - 1) = xf - 1 := by rw [IntKind.wrap_i32]; omega
          have t2 : IntKind.i32.wrap (xt + 1) = xt + 1 := by rw [IntKind.wrap_i32]; omega
          have t3 : ∀ a : Option Addr, Option.map (fun b : Addr => b.add 0) a = a := fun a => by cases a <;> simp [Addr.add]
          clear hok hT hRI hL hc5 hn5 hxr hro hc6
          go_wp2_with fail
          have hnew := heap_alloc_new wr (.cells #[.int .i32 xf, .int .i32 xt, .int .u8 xv] 35)
          have hW4 : Hid (Below wr.heap.size wr (wr.alloc (.cells #[.int .i32 xf, .int .i32 xt, .int .u8 xv] 35))) := (Below.refl _ _).alloc (Nat.le_refl _) _
          have hlb : Hid (wr.heap.size < (wr.alloc (.cells #[.int .i32 xf, .int .i32 xt, .int .u8 xv] 35)).heap.size) := by show _ < _; simp
          generalize wr.alloc (.cells #[.int .i32 xf, .int .i32 xt, .int .u8 xv] 35) = W4 at *
          generalize hlbe : wr.heap.size = lb at *
          obtain ⟨s0, s1, _, _, _, _⟩ := blk3 hnew
          have HSa : Hid (∀ o, (W4.alloc o).cell? ⟨lb, 0, none⟩ = some (.int .i32 xf) ∧ (W4.alloc o).cell? ⟨lb, 1, none⟩ = some (.int .i32 xt)) := fun o =>
            ⟨(World.cell?_alloc_lt W4 o ⟨lb, 0, none⟩ hlb.out).trans s0, (World.cell?_alloc_lt W4 o ⟨lb, 1, none⟩ hlb.out).trans s1⟩
          have HW5 : Hid (∀ w5 : World, Below W4.drew.heap.size W4.drew w5 → (w5.cell? ⟨lb, 0, none⟩ = some (.int .i32 xf) ∧ w5.cell? ⟨lb, 1, none⟩ = some (.int .i32 xt)) ∧ Below lb wr w5) := fun w5 hb =>
            ⟨⟨(hb.cell (p := ⟨lb, 0, none⟩) hlb.out).trans s0, (hb.cell (p := ⟨lb, 1, none⟩) hlb.out).trans s1⟩, hW4.out.trans ((show Below W4.heap.size W4 w5 from ⟨hb.os, hb.tape, hb.output, hb.size, hb.block⟩).mono (Nat.le_of_lt hlb.out))⟩
          have HQ4 : Hid (∀ j (h : j < qs.length), ∃ g off, ao5 = some ⟨g, off, none⟩ ∧ g < W4.drew.heap.size ∧ W4.drew.cell? ⟨g, off + j, none⟩ = some (.int .i32 qs[j])) := by
            obtain ⟨ao9, cap9, e9, _, _, h9⟩ := HC5.out W4 hW4.out
            cases e9
            exact h9
          clear hnew hgb d0 d1 d2
          go_region_held3 (fun w' => w'.cell? ⟨lb, 0, none⟩ = some (.int .i32 xf) ∧ w'.cell? ⟨lb, 1, none⟩ = some (.int .i32 xt))
            (first | exact ⟨s0, s1⟩ | exact HSa.out _ | exact HSb.out)
            (first
              | (refine step_ask (a := _) rfl (.tmp 69) (.tmp 80) rfl W4.drew ao5 qs xf xt (xf - 1) (xt + 1) rfl hn5'.out HQ4.out rfl (by omega) ?_; intro ao7 cap7 w5 hq7 hb7; obtain ⟨hs7, hbw⟩ := HW5.out w5 hb7; have HSb := hid hs7; have HBW := hid hbw; have HQ7 := hid hq7; clear hq7 hb7 hs7 hbw))
          obtain ⟨hok, hT, hRI, hL⟩ := HST.out w5 HBW.out
          have hqr2 : Hid (∀ z ∈ qs ++ [xf, xt, xf - 1, xt + 1], -2147483648 ≤ z ∧ z ≤ 2147483647) := by
            intro z hz
            simp only [List.mem_append, List.mem_cons, List.not_mem_nil, or_false] at hz
            rcases hz with hz | rfl | rfl | rfl | rfl
            · exact hqr.out z hz
            all_goals omega
          go_wp2_with fail
          go_roundg (x0.length - (k + 1))
          case measure => rw [HG.out]; omega
          case rel => exact ⟨k + 1, qs ++ [xf, xt, xf - 1, xt + 1], by omega, rfl, by go_num, by simp; omega, hqr2, HQ7.out, hok, hT, hRI, hL⟩
        · have e : k = x0.length := by omega
          subst e
          have hqm : qs.length ≤ 300 := by omega
          clear hqs hL HG
          have HQ := hid hQ
          obtain ⟨ao5, cap5, rfl, _⟩ := hQ
          go_wp2_with fail
          go_loopg [85] qs.length (fun g i wr => ∃ (k : Nat), k ≤ qs.length ∧ g = qs.length - k ∧ i = .int .i64 k ∧ AskSl wr (.slice ao5 qs.length cap5) qs ∧ Ok w.heap.size w wr ∧ Tab wr p x0 a1 ∧ RIn wr (.slice ao4 x0.length cap4) x0)
          case atStart => exact ⟨0, Nat.zero_le _, by omega, rfl, HQ.out, hok, hT, hRI⟩
          case round =>
            clear HQ hok hT hRI
            obtain ⟨k, hk, hg, rfl, hQ, hok, hT, hRI⟩ := hrel
            have HG := hid hg
            clear hg
            by_cases hlt : k < qs.length
            · have HQ := hid hQ
              obtain ⟨ao9, cap9, e9, _, _, hc9⟩ := hQ
              cases e9
              obtain ⟨gb, off, rfl, hgb, d0⟩ := hc9 k hlt
              have hgf := hid (get_fst (z := a1) hris.out qs[k])
              have q5 := hid (hqr.out qs[k] (List.getElem_mem hlt))
              generalize qs[k] = r at *
              have HT := hid hT
              have HRI := hid hRI
              clear hT hRI hc9
              go_wp2_with fail
              refine (get_any HT.out r).mono ?_
              rintro e W6 ⟨rfl, n6, hw6⟩
              have bel6 : Below wr.heap.size wr W6 := by rw [hw6]; exact below_drewN (Below.refl _ _) _
              replace hok := hok.step bel6
              replace HT := hid (HT.out.step bel6)
              replace HRI := hid (HRI.out.step bel6)
              replace HQ := hid (HQ.out.step bel6)
              clear hw6 bel6
              rw [hgf.out]
              generalize hfv : fst' a1 x0 r = fv at *
              have HFV := hid hfv
              clear hfv
              have q6 : wrap64 r = r := by have := q5.out; unfold wrap64; omega
              go_wp2_with fail
              refine (rget_any HRI.out h60 a1 r).mono ?_
              rintro e W7 ⟨rfl, rfl⟩
              rw [HFV.out]
              have q7 : (fv == fv) = true := by simp
              go_wp2_with fail
              go_roundg (qs.length - (k + 1))
              case measure => rw [HG.out]; omega
              case rel => exact ⟨k + 1, by omega, rfl, by go_num, HQ.out, hok, HT.out, HRI.out⟩
            · have e : k = qs.length := by omega
              subst e
              clear hT hRI hQ
              go_wp2_with (go_at_call 6; refine (awake_any _).mono ?_; rintro e w' ⟨rfl, hb'⟩; replace hok := hok.step hb'; clear hb')
              go_ret
              exact ⟨rfl, hok.1⟩

set_option maxRecDepth 100000 in
theorem lifted (os : Os) (started : os.Started) (H : Type) (enc : TypeId × Value → H) :
    ReturnsInHanded {} Try.checked os 3 .any (Rows.stageTellsSpec.pre6 enc Try.prog Try.f3 Rows.stageTellsRow.domain false) (Rows.stageTellsSpec.post enc Try.prog Try.f3 false true false false) := by
  refine returnsInHanded_of_change (C := Try.checked) own started (by kernel_rfl) Try.func3
    (ChangeSpec.witness6 (enc := enc) (C := Try.checked) false ⟨#[], #[.slice none 0 0, .int .u8 0, .slice none 0 0], []⟩ 8 (by kernel_rfl) (by kernel_rfl) (by kernel_rfl) (by kernel_rfl)) ?_
  intro W base args ds gs before hval0 hW hcnd _
  have hval : ∀ (j : Nat) t v, Try.f3.params[j]? = some t → args[j]? = some v → Value.okWide Try.prog W .any base t v := hval0
  have hW' := hW
  obtain ⟨p, q, hA0, hV, rfl, hfz, hnd⟩ := hW
  have hA : DataW.TrodAll enc Try.prog W 0 (fun _ => true) true Try.f3.params.toList args.toList ds p := hA0
  rw [Try.params3] at hA hval
  obtain ⟨v0, vs0, d0, ds0, p0, q0, hargs, rfl, rfl, h0, r0⟩ := trodAll_cons hA
  obtain ⟨v1, vs1, d1, ds1, p1, q1, rfl, rfl, rfl, h1, r1⟩ := trodAll_cons r0
  obtain ⟨v2, vs2, d2, ds2, p2, q2, rfl, rfl, rfl, h2, r2⟩ := trodAll_cons r1
  obtain ⟨rfl, rfl, rfl⟩ := trodAll_nil r2
  obtain rfl : args = #[v0, v1, v2] := by cases args; simp_all
  obtain ⟨rfl, rfl⟩ := trodVars_none hV
  obtain ⟨a0, len0, cap0, rfl⟩ := okWide_slice Try.underlying22 (hval 0 22 v0 rfl rfl)
  have k0 := h0
  have lt0 : ∀ x ∈ p0, x.block < W.heap.size := by obtain ⟨m, hm⟩ := k0; exact DataW.trod_lt m _ _ _ hm
  obtain ⟨x0, w0⟩ := open_lin (v := .slice a0 len0 cap0) rfl h0
  obtain ⟨a1, rfl, rfl, rfl, w1⟩ := open_int Try.underlying5 (hval 1 5 v1 rfl rfl) h1
  obtain ⟨a2, len2, cap2, rfl⟩ := okWide_slice Try.underlying23 (hval 2 23 v2 rfl rfl)
  have k2 := h2
  have lt2 : ∀ x ∈ p2, x.block < W.heap.size := by obtain ⟨m, hm⟩ := k2; exact DataW.trod_lt m _ _ _ hm
  obtain ⟨x2, w2⟩ := open_ask (v := .slice a2 len2 cap2) rfl h2
  clear hA0 hval0
  refine (walk _ x0 a1 _ x2 W w0 w1 w2).mono fun e W' ⟨he, bel⟩ => ?_
  subst he
  exact ⟨_, rfl, _, _, _, [], _, [], hW', trodAll_mk1 (shut_bool Try.underlying4 _), (trodAll_cons_mk (Below.trod laidOut (by kernel_rfl) (of_decide_eq_true (by kernel_rfl)) k0 bel lt0) (trodAll_cons_mk (shut_int Try.underlying5 w1) (trodAll_cons_mk (Below.trod laidOut (by kernel_rfl) (of_decide_eq_true (by kernel_rfl)) k2 bel lt2) trodAll_mk0))), rfl, bel.frame _, fun h => by cases h⟩

theorem over : Rows.stageTellsRow.holds Try.pinned (OpenSpec.ofChange Rows.stageTellsSpec) :=
  OpenClaim.holds_of_wide 3 Try.f3 rfl rfl rfl rfl rfl rfl rfl ⟨rfl, rfl, rfl, rfl, rfl⟩ rfl rfl rfl rfl rfl (by kernel_rfl) Try.func3 (by kernel_rfl)
    (of_decide_eq_true (by kernel_rfl)) (by unfold Func.isWrapper; first | (rw [if_pos (by decide +kernel)]; kernel_rfl) | (rw [if_neg (by decide +kernel)]; exact ⟨rfl, rfl⟩))
    (fun os started H enc _ => lifted os started H enc)

end Go.Proofs.Ytpfnljebofgifab.stageTells
namespace Go.Proofs.Ytpfnljebofgifab
theorem stageTells_holds : Rows.StageTellsSaid := stageTells.over
#print axioms stageTells_holds
end Go.Proofs.Ytpfnljebofgifab
