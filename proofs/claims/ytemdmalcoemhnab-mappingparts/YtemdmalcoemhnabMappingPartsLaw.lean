/-
  For every slice l of runes the law MappingParts returns true, and l reads behind the call as it read before. No condition.
-/
import Derived.Test.YtemdmalcoemhnabRows
import Derived.Test.YtemdmalcoemhnabAp1x4
import Derived.Test.YtemdmalcoemhnabMap5x12
import Derived.WalkKit
import Derived.ProofKit
import Derived.OpenShut
import Derived.ShutString
import Derived.ChangeOld
import Derived.Below
namespace Go.Proofs.Ytemdmalcoemhnab.mappingParts
open Go.ChangeShapes Go.WideShapes Go.ChangeAt Go.RowKit
open Go.ChangeMaps (open_string shut_string)
set_option linter.unusedVariables false

theorem own : ownKnob Try.prog.godebug = none := by kernel_rfl
theorem laidOut : laidOutB Try.prog = true := by kernel_rfl

/-- WHAT THE WALK IS TOLD OF A SLICE OF INTEGERS THAT CAME IN: it is nil; or it leads to a row of 'cap' cells, the numbers 'zs' (the first 'len' are its elements, the rest its spare room), each fitting its kind. -/
def IsRow (k : IntKind) (w : World) (a : Option Addr) (len cap : Nat) (zs : List Int) : Prop :=
  (a = none ∧ len = 0 ∧ cap = 0 ∧ zs = []) ∨
  ∃ x, a = some x ∧ len ≤ cap ∧ cap ≤ maxLen ∧ zs.length = cap ∧ (∀ i, i < zs.length → w.cell? (x.add i) = some (.int k (zs.getD i 0))) ∧ ∀ n ∈ zs, (Lit.int k n).wf = true

open Od Pr Nf Ma in
set_option maxHeartbeats 8000000 in
set_option maxRecDepth 100000 in
theorem walk (a0 : Option Addr) (len0 cap0 : Nat) (z0 : List Int) (w : World) (w0 : IsRow .i32 w a0 len0 cap0 z0) :
    Calls Try.prog 4 #[.slice a0 len0 cap0] w fun e w' => e = .returned (.bool true) ∧ Below w.heap.size w w' := by
  obtain ⟨hlen, hS, hZ⟩ := row_sl w0
  have HZ0 : Hid (∀ y ∈ z0.take len0, -2147483648 ≤ y ∧ y ≤ 2147483647) := hZ
  have HSl : Hid (Sl .i32 w (.slice a0 len0 cap0) (z0.take len0)) := ⟨a0, cap0, by rw [hlen], hS⟩
  have hLen : Hid ((z0.take len0).length = len0) := hlen
  generalize z0.take len0 = zs at *
  clear w0 hS hZ hlen
  have HO := Ma.hr (Ok.start w)
  go_enter Try.func4, Try.ntmps4
  go_wp2_with fail
  refine (newbook_any _).mono ?_
  rintro e W1 ⟨b, rfl, hb, hB⟩
  have HB := Ma.hr hB
  replace HO := Ma.hr (HO.out.step hb)
  clear hb hB
  go_wp2_with fail
  refine (Pr.new_any _).mono ?_
  rintro e W2 ⟨p, d, u, s, rfl, hP, hb⟩
  have HP := Ma.hr hP
  replace HB := Ma.hr (HB.out.step hb)
  replace HO := Ma.hr (HO.out.step hb)
  clear hb hP
  go_wp2_with fail
  refine (mnew_any HB.out HP.out).mono ?_
  rintro e W3 ⟨m, f, rfl, hM, hb⟩
  have HM := Ma.hr hM
  replace HO := Ma.hr (HO.out.step hb)
  clear hb hM HB HP
  by_cases hl : 100 < len0
  · go_wp2_with fail
    refine (awake15_any HM.out).mono ?_
    rintro e w' ⟨rfl, hb⟩
    replace HO := Ma.hr (HO.out.step hb)
    clear hb
    go_wp2_with fail
    go_ret
    exact ⟨rfl, HO.out.1⟩
  · have hn : Hid (zs.length ≤ 100) := by show _ ≤ _; have := hLen.out; omega
    have HBd : Hid (∀ q ∈ splP zs, ∀ z ∈ q, -2147483648 ≤ z ∧ z ≤ 2147483647) := fun q hq z hz => HZ0.out z ((spl_mem zs q hq).2 z hz)
    have HPl : Hid (∀ q ∈ splP zs, q.length ≤ 100) := fun q hq => Nat.le_trans (spl_mem zs q hq).1 hn.out
    have HSn : Hid ((splP zs).length ≤ 101) := Nat.le_trans (spl_len zs) (by have := hn.out; omega)
    have HJ := Ma.hr (jn_spl zs)
    go_wp2_with fail
    refine (split_any (HSl.out.step HO.out.1) (by have := hn.out; omega)).mono ?_
    rintro e W4 ⟨v4, us, rfl, h1, h2, hb⟩
    have HG4 := Ma.hr (And.intro h1 h2)
    replace HM := Ma.hr (HM.out.step hb)
    replace HO := Ma.hr (HO.out.step hb)
    clear hb h1 h2
    go_wp2_with fail
    refine (ints15_any _ _ _ (HSl.out.step HO.out.1) (by have := hn.out; omega) HZ0.out).mono ?_
    rintro e W5 ⟨v5, rfl, h1, hb⟩
    have S5 := Ma.hr h1.sl
    replace HG4 := Ma.hr (And.intro (own_below HG4.out.1 hb) (HG4.out.2.below hb))
    replace HM := Ma.hr (HM.out.step hb)
    replace HO := Ma.hr (HO.out.step hb)
    clear hb h1
    go_wp2_with fail
    refine (rsplit_any S5.out (by have := hn.out; omega)).mono ?_
    rintro e W6 ⟨v6, Q, rfl, hQ, hQs⟩
    have hb := hQ.ok.1
    have HQ := Ma.hr hQ
    have HQs := Ma.hr hQs
    replace HG4 := Ma.hr (And.intro (own_below HG4.out.1 hb) (HG4.out.2.below hb))
    replace HM := Ma.hr (HM.out.step hb)
    replace HO := Ma.hr (HO.out.step hb)
    clear hb hQ hQs S5
    obtain ⟨ag, cg, hvg, hcg, hag⟩ := row_at HG4.out.1
    obtain ⟨aw, cw, hvw, hcw, haw⟩ := row_at (us := Q.map (·.1)) (by rw [List.length_map]; exact HQ.out.row)
    have eQ : Q.length = (splP zs).length := by rw [← HQs.out, List.length_map]
    have eU : us.length = (splP zs).length := HG4.out.2.1
    rw [List.length_map, eQ] at hvw
    rw [eU] at hvg
    have HEQ := Ma.hr (And.intro eQ eU)
    have HAg := Ma.hr hag
    have HAw := Ma.hr haw
    have HGn := Ma.hr HG4.out
    clear hag haw hcg hcw eQ eU HG4
    have hsn := HSn.out
    obtain ⟨N, hN⟩ : ∃ N, (splP zs).length = N := ⟨_, rfl⟩
    have HNn := Ma.hr hN
    rw [hN] at hvg hvw hsn
    clear hN
    subst hvg hvw
    have HK := Ma.hr (Ok.start W6)
    have HW := Ma.hr HO.out
    go_wp2_with fail
    go_loopg [27] N (fun gg vi wr => ∃ k : Nat, vi = .int .i64 k ∧ k ≤ N ∧ gg = N - k ∧ Hid (Ok W6.heap.size W6 wr))
    case atStart => exact ⟨0, rfl, Nat.zero_le _, rfl, HK.out⟩
    case round =>
      obtain ⟨k, rfl, hk, hg, H⟩ := hrel
      have HG := Ma.hr hg
      clear hg HK
      by_cases hlt : k < N
      · have hku : k < us.length := by have h1 := HEQ.out.2; have h2 := HNn.out; omega
        have hkq : k < Q.length := by have h1 := HEQ.out.1; have h2 := HNn.out; omega
        have hkp : k < (splP zs).length := by have h2 := HNn.out; omega
        obtain ⟨g, rfl, hgl, c1⟩ := HAg.out k hku
        obtain ⟨g2, rfl, hgl2, c2⟩ := HAw.out k (by rw [List.length_map]; exact hkq)
        have c2' : W6.cell? ⟨g2, k, none⟩ = some Q[k].1 := by rw [c2]; simp
        have HCl : Hid (∀ W, Below W6.heap.size W6 W → W.cell? ⟨g, k, none⟩ = some us[k] ∧ W.cell? ⟨g2, k, none⟩ = some Q[k].1) := fun W h => ⟨(h.cell (p := ⟨g, k, none⟩) hgl).trans c1, (h.cell (p := ⟨g2, k, none⟩) hgl2).trans c2'⟩
        have eqk : Q[k].2 = (splP zs)[k] := by
          have : (Q.map (·.2))[k]'(by rw [List.length_map]; exact hkq) = (splP zs)[k] := by simp only [HQs.out]
          simpa using this
        have HIn : Hid (∀ W, Below W6.heap.size W6 W → Calls Try.prog 11 #[us[k]] W fun e w' => ∃ v', e = .returned v' ∧ Sn .i64 w' v' (splP zs)[k] ∧ Below W.heap.size W w') := fun W h => ints15_any _ _ _ ((own_sl (HGn.out.2.2 k hku hkp)).step h) (by have := HPl.out _ (List.getElem_mem hkp); omega) (HBd.out _ (List.getElem_mem hkp))
        have HSm : Hid (∀ W v, Below W6.heap.size W6 W → Sl .i64 W v (splP zs)[k] → Calls Try.prog 10 #[v, Q[k].1] W fun e w' => e = .returned (.bool true) ∧ Below W.heap.size W w') := fun W v h hv => by
          have h3 := (own_sl (HQ.out.own Q[k] (List.getElem_mem hkq))).step h
          rw [eqk] at h3
          refine (same_any _ _ _ _ _ hv h3 (by have := HPl.out _ (List.getElem_mem hkp); omega)).mono ?_
          rintro e w' ⟨he, hb⟩
          exact ⟨by rw [he, decide_eq_true rfl], hb⟩
        have HD : Hid (Ok W6.heap.size W6 wr.drew) := H.out.step ((Below.refl _ _).drew)
        obtain ⟨k1, k2⟩ := HCl.out _ H.out.1
        have z1 : (k : Int) < (N : Int) := by omega
        clear c1 c2 c2' eqk
        generalize us[k] = uk at *
        generalize Q[k].1 = qk at *
        generalize (splP zs)[k] = pk at *
        go_wp2_with fail
        go_region_held3 (fun w' => w'.cell? ⟨g, k, none⟩ = some uk ∧ w'.cell? ⟨g2, k, none⟩ = some qk)
          (first | exact HCl.out _ HD.out.1 | exact HCl.out _ H.out.1)
          (first
            | (go_at_call 11; refine (HIn.out _ HD.out.1).mono ?_; rintro e w' ⟨v', rfl, h1, hb'⟩; have S1 := Ma.hr h1.sl; replace HD := Ma.hr (HD.out.step hb'); clear h1 hb')
            | (go_at_call 10; refine (HSm.out _ _ HD.out.1 S1.out).mono ?_; rintro e w' ⟨rfl, hb'⟩; replace HD := Ma.hr (HD.out.step hb'); clear hb'))
        all_goals (try go_wp2_with fail)
        all_goals go_roundg (N - (k + 1))
        all_goals first | (rw [HG.out]; omega) | exact ⟨k + 1, by go_num, by omega, rfl, HD.out⟩
      · have z1 : ¬ (k : Int) < (N : Int) := by omega
        have HOw := Ma.hr (HW.out.step H.out.1)
        have HMw := Ma.hr (HM.out.step H.out.1)
        have HJn : Hid (∀ W, Below W6.heap.size W6 W → Calls Try.prog 14 #[.slice ag N cg] W fun e w' => ∃ v', e = .returned v' ∧ Sl .i32 w' v' zs ∧ Below W.heap.size W w') := fun W h => by
          have h1 := own_below HGn.out.1 h
          have h2 := HGn.out.2.below h
          have eU := HEQ.out.2
          rw [HNn.out] at eU
          have := join_any h1 h2 (by omega) (by rw [HJ.out]; have := hn.out; omega) (fun q hq => by have := HPl.out q hq; omega)
          rw [HJ.out] at this
          exact this
        have HKd := Ma.hr H.out
        clear H HG HGn HAg HAw
        go_wp2_with fail
        refine (HJn.out _ HKd.out.1).mono ?_
        rintro e W8 ⟨v8, rfl, h1, hb⟩
        have S8 := Ma.hr h1
        replace HMw := Ma.hr (HMw.out.step hb)
        replace HOw := Ma.hr (HOw.out.step hb)
        clear hb h1 HJn
        go_wp2_with fail
        refine (ints15_any _ _ _ S8.out (by have := hn.out; omega) HZ0.out).mono ?_
        rintro e W9 ⟨v9, rfl, h1, hb⟩
        have S9 := Ma.hr h1.sl
        replace HMw := Ma.hr (HMw.out.step hb)
        replace HOw := Ma.hr (HOw.out.step hb)
        clear hb h1 S8
        go_wp2_with fail
        refine (ints15_any _ _ _ (HSl.out.step HOw.out.1) (by have := hn.out; omega) HZ0.out).mono ?_
        rintro e W10 ⟨v10, rfl, h1, hb⟩
        have S10 := Ma.hr h1.sl
        replace S9 := Ma.hr (S9.out.step hb)
        replace HMw := Ma.hr (HMw.out.step hb)
        replace HOw := Ma.hr (HOw.out.step hb)
        clear hb h1
        go_wp2_with fail
        refine (same_any _ _ _ _ _ S9.out S10.out (by have := hn.out; omega)).mono ?_
        rintro e W11 ⟨rfl, hb⟩
        replace HMw := Ma.hr (HMw.out.step hb)
        replace HOw := Ma.hr (HOw.out.step hb)
        clear hb S9 S10
        rw [decide_eq_true rfl]
        go_wp2_with fail
        refine (awake15_any HMw.out).mono ?_
        rintro e w' ⟨rfl, hb⟩
        replace HOw := Ma.hr (HOw.out.step hb)
        clear hb
        go_wp2_with fail
        go_ret
        exact ⟨rfl, HOw.out.1⟩

set_option maxRecDepth 100000 in
theorem lifted (os : Os) (started : os.Started) (H : Type) (enc : TypeId × Value → H) :
    ReturnsInHanded {} Try.checked os 4 .any (Rows.mappingPartsSpec.pre6 enc Try.prog Try.f4 Rows.mappingPartsRow.domain false) (Rows.mappingPartsSpec.post enc Try.prog Try.f4 false true false false) := by
  refine returnsInHanded_of_change (C := Try.checked) own started (by kernel_rfl) Try.func4
    (ChangeSpec.witness6 (enc := enc) (C := Try.checked) false ⟨#[], #[.slice none 0 0], []⟩ 8 (by kernel_rfl) (by kernel_rfl) (by kernel_rfl) (by kernel_rfl)) ?_
  intro W base args ds gs before hval0 hW hcnd _
  have hval : ∀ (j : Nat) t v, Try.f4.params[j]? = some t → args[j]? = some v → Value.okWide Try.prog W .any base t v := hval0
  have hW' := hW
  obtain ⟨p, q, hA0, hV, rfl, hfz, hnd⟩ := hW
  have hA : DataW.TrodAll enc Try.prog W 0 (fun _ => true) true Try.f4.params.toList args.toList ds p := hA0
  rw [Try.params4] at hA hval
  obtain ⟨v0, vs0, d0, ds0, p0, q0, hargs, rfl, rfl, h0, r0⟩ := trodAll_cons hA
  obtain ⟨rfl, rfl, rfl⟩ := trodAll_nil r0
  obtain rfl : args = #[v0] := by cases args; simp_all
  obtain ⟨rfl, rfl⟩ := trodVars_none hV
  obtain ⟨a0, len0, cap0, rfl⟩ := okWide_slice Try.underlying22 (hval 0 22 v0 rfl rfl)
  have k0 := h0
  have lt0 : ∀ x ∈ p0, x.block < W.heap.size := by obtain ⟨m, hm⟩ := k0; exact DataW.trod_lt m _ _ _ hm
  obtain ⟨z0, w0⟩ : ∃ zs, IsRow .i32 W a0 len0 cap0 zs := by
    obtain ⟨fuel, hf⟩ := h0
    rcases open_ints Try.underlying22 Try.underlying21 (by kernel_rfl) hf with ⟨hcs, _⟩ | ⟨x, l, c, zs, hcs, _, hl, hm, hz, _, hcell, hwz⟩
    · simp [Value.cells] at hcs
      obtain ⟨rfl, rfl, rfl⟩ := hcs
      exact ⟨[], .inl ⟨rfl, rfl, rfl, rfl⟩⟩
    · simp [Value.cells] at hcs
      obtain ⟨rfl, rfl, rfl⟩ := hcs
      exact ⟨zs, .inr ⟨_, rfl, hl, hm, by simpa using hz, hcell, hwz⟩⟩
  clear hA0 hval0
  refine (walk a0 len0 cap0 z0 W w0).mono fun e W' ⟨he, bel⟩ => ?_
  subst he
  exact ⟨_, rfl, _, _, _, [], _, [], hW', trodAll_mk1 (shut_bool Try.underlying4 _), (trodAll_cons_mk (Below.trod laidOut (by kernel_rfl) (of_decide_eq_true (by kernel_rfl)) k0 bel lt0) trodAll_mk0), rfl, bel.frame _, fun h => by cases h⟩

theorem over : Rows.mappingPartsRow.holds Try.pinned (OpenSpec.ofChange Rows.mappingPartsSpec) :=
  OpenClaim.holds_of_wide 4 Try.f4 rfl rfl rfl rfl rfl rfl rfl ⟨rfl, rfl, rfl, rfl, rfl⟩ rfl rfl rfl rfl rfl (by kernel_rfl) Try.func4 (by kernel_rfl)
    (of_decide_eq_true (by kernel_rfl)) (by unfold Func.isWrapper; first | (rw [if_pos (by decide +kernel)]; kernel_rfl) | (rw [if_neg (by decide +kernel)]; exact ⟨rfl, rfl⟩))
    (fun os started H enc _ => lifted os started H enc)

end Go.Proofs.Ytemdmalcoemhnab.mappingParts
namespace Go.Proofs.Ytemdmalcoemhnab
theorem mappingParts_holds : Rows.MappingPartsSaid := mappingParts.over
#print axioms mappingParts_holds
end Go.Proofs.Ytemdmalcoemhnab
