import Derived.Test.YtclcmkklonnalaaOrd14x25
import Derived.Test.YtclcmkklonnalaaOrd23x24
import Derived.ChangeKeysEq
namespace Go.Proofs.Ytclcmkklonnalaa
namespace Od
open Go.RowKit

/-- A cell of an owned row is written. -/
theorem own_set {w : World} {B n cap size g : Nat} {e : TypeId} {xs : List Value} (h : w.ownsRow B e size (.slice (some ⟨g, 0, none⟩) n cap) n xs) (k : Nat) (u : Value) : (w.setCell ⟨g, k, none⟩ u).ownsRow B e size (.slice (some ⟨g, 0, none⟩) n cap) n (xs.set k u) := by
  refine ⟨by rw [List.length_set]; exact h.1, ?_⟩
  rcases h.2 with ⟨h1, _⟩ | ⟨g', cap', cur, h1, h2, h3, h4, h5, h6, h7⟩
  · cases h1
  · have e1 : g = g' ∧ cap = cap' := by
      injection h1 with a1 a2 a3
      have := Option.some.inj a1
      injection this with b1 _ _
      exact ⟨b1, a3⟩
    obtain ⟨rfl, rfl⟩ := e1
    refine .inr ⟨g, cap, cur.setIfInBounds k u, rfl, h2, ?_, h4, h5, by simpa using h6, ?_⟩
    · simp [World.setCell, Array.getElem?_modify, h3]
    · rw [Array.toList_setIfInBounds, List.take_set, h7]

theorem own_cell {w : World} {B n cap size g : Nat} {e : TypeId} {xs : List Value} (h : w.ownsRow B e size (.slice (some ⟨g, 0, none⟩) n cap) n xs) (k : Nat) (hk : k < xs.length) : w.cell? ⟨g, k, none⟩ = xs[k]? := by
  have := h.cells (g := g) rfl k xs[k] (List.getElem?_eq_getElem hk)
  have e2 : (⟨g, 0, none⟩ : Addr).add k = ⟨g, k, none⟩ := by unfold Addr.add; split <;> simp_all
  rw [e2] at this
  rw [this, List.getElem?_eq_getElem hk]
theorem own_frozen {w : World} {B n cap size g : Nat} {e : TypeId} {xs : List Value} (h : w.ownsRow B e size (.slice (some ⟨g, 0, none⟩) n cap) n xs) (k : Nat) : w.frozen? ⟨g, k, none⟩ = false := by
  rcases h.2 with ⟨h1, _⟩ | ⟨g', cap', cur, h1, h2, h3, _⟩
  · cases h1
  · have e1 : g = g' := by
      injection h1 with a1 a2 a3
      have := Option.some.inj a1
      injection this with b1 _ _
    subst e1
    simp [World.frozen?, h3]
theorem own_lo {w : World} {B n cap size g : Nat} {e : TypeId} {xs : List Value} (h : w.ownsRow B e size (.slice (some ⟨g, 0, none⟩) n cap) n xs) : B ≤ g := (h.lt g rfl).1

theorem own_form {w : World} {B n size : Nat} {e : TypeId} {v : Value} {xs : List Value} (h : w.ownsRow B e size v n xs) (hn : 0 < n) : ∃ g cap, v = .slice (some ⟨g, 0, none⟩) n cap := by
  rcases h.2 with ⟨_, h2⟩ | ⟨g, cap, cur, h1, _⟩
  · omega
  · exact ⟨g, cap, h1⟩
/-- The runs as the reference has them at a place. -/
theorem fin_zero (c : Int → Int) (l : List Int) (k : Nat) (h : k < l.length) (h0 : c l[k] = 0) : finR (stR c (l.take (k + 1))) = finR (stR c (l.take k)) := by
  rw [stR_take c l k h]
  generalize stR c (l.take k) = s
  obtain ⟨dn, op, n⟩ := s
  unfold stepR finR
  rw [if_pos h0]
theorem fin_mark (c : Int → Int) (l : List Int) (k : Nat) (h : k < l.length) (h0 : c l[k] ≠ 0) (hn : (stR c (l.take k)).2.2 = k) : ∃ L f, finR (stR c (l.take (k + 1))) = L ++ [(f, k + 1)] ∧ (((stR c (l.take k)).2.1 = none ∧ finR (stR c (l.take k)) = L ∧ f = k) ∨ ((stR c (l.take k)).2.1 ≠ none ∧ finR (stR c (l.take k)) = L ++ [(f, k)])) := by
  rw [stR_take c l k h]
  generalize stR c (l.take k) = s at *
  obtain ⟨dn, op, n⟩ := s
  simp only at hn
  subst hn
  unfold stepR finR
  rw [if_neg h0]
  cases op with
  | none => exact ⟨dn, n, rfl, .inl ⟨rfl, rfl, rfl⟩⟩
  | some f => exact ⟨dn, f, rfl, .inr ⟨by simp, rfl⟩⟩
theorem open_iff (c : Int → Int) (l : List Int) (k : Nat) (h : k ≤ l.length) : (stR c (l.take k)).2.1 = none ↔ (k = 0 ∨ c (l.getD (k - 1) 0) = 0) := by
  cases k with
  | zero => simp [stR]
  | succ k =>
    have hk : k < l.length := by omega
    rw [stR_take c l k hk, Nat.add_sub_cancel, getD_at hk]
    unfold stepR
    by_cases h0 : c l[k] = 0
    · rw [if_pos h0]; simp [h0]
    · rw [if_neg h0]; simp [h0]
theorem fin_len (c : Int → Int) (l : List Int) (k : Nat) (h : k ≤ l.length) : (finR (stR c (l.take k))).length ≤ k + 1 := by
  have h1 := st_len c l k h
  unfold finR
  generalize stR c (l.take k) = s at *
  obtain ⟨dn, op, n⟩ := s
  simp only at h1
  cases op with
  | none => simp only; omega
  | some f => simp only [List.length_append, List.length_cons, List.length_nil]; omega
theorem set_last (L : List (Nat × Nat)) (f a b : Nat) : ((L ++ [(f, a)]).flatMap p2).set (L.length * 2 + 1) (.int .i64 (b : Int)) = (L ++ [(f, b)]).flatMap p2 := by
  rw [List.flatMap_append, List.flatMap_append, List.set_append_right _ _ (by rw [p2_len]; omega), p2_len, show L.length * 2 + 1 - L.length * 2 = 1 by omega]
  rfl

set_option maxRecDepth 100000 in
set_option maxHeartbeats 4000000 in
theorem rruns_any {w : World} {v : Value} {zs : List Int} (hS : Sn .i64 w v zs) (hn : zs.length ≤ 1000000) :
    Calls Try.prog 17 #[v] w fun e w' => ∃ v', e = .returned v' ∧ Ps w' v' (runsP clsP zs) ∧ Below w.heap.size w w' := by
  obtain ⟨ad, cap, rfl, hS⟩ := hS
  have HS := hid hS
  clear hS
  have HO : Hid ((w.alloc (.cells #[] 36)).ownsRow w.heap.size 36 2 (.slice (some ⟨w.heap.size, 0, none⟩) 0 0) 0 []) := World.ownsRow_made w #[] 0 (Nat.le_refl _) (by unfold maxLen; omega) rfl
  have hok := hid ((Ok.start w).alloc (o := .cells #[] 36))
  have HCl := hid (fun r w => rcls_any r w)
  obtain ⟨i0, hi, hz0, hz1, hz2⟩ := info_parts Try.info_p2
  have HIn := hid (And.intro hi (And.intro hz0 (And.intro hz1 hz2)))
  clear hi hz0 hz1 hz2
  go_enter Try.func17, Try.ntmps17
  go_wp2_with fail
  go_loopg [3, 4] zs.length (fun g vo vi wr => ∃ (k N cp gg : Nat), vi = .int .i64 k ∧ vo = .slice (some ⟨gg, 0, none⟩) N cp ∧ N ≤ k + 1 ∧ k ≤ zs.length ∧ g = zs.length - k ∧ Hid ((finR (stR clsP (zs.take k))).length = N ∧ wr.ownsRow w.heap.size 36 2 (.slice (some ⟨gg, 0, none⟩) N cp) N ((finR (stR clsP (zs.take k))).flatMap p2) ∧ Ok w.heap.size w wr))
  case atStart => exact ⟨0, 0, 0, w.heap.size, rfl, rfl, by omega, Nat.zero_le _, rfl, rfl, HO.out, hok.out⟩
  case round =>
    obtain ⟨k, N, cp, gg, rfl, rfl, hNk, hk, hg, H⟩ := hrel
    have HG := hid hg
    clear hg HO hok
    by_cases hlt : k < zs.length
    · obtain ⟨b, off, e0, hb, c1⟩ := HS.out.at_ k hlt
      have e0' := Option.some.inj e0
      subst e0'
      have d1 := (H.out.2.2.1.cell (p := ⟨b, off + k, none⟩) hb).trans c1
      have HV := hid (HCl.out zs[k] wr)
      have z1 : (k : Int) < (zs.length : Int) := by omega
      have HF0 := hid (fun h => fin_zero clsP zs k hlt h)
      have HF1 := hid (fun h => fin_mark clsP zs k hlt h (st_ok clsP zs k hk).2.2.2)
      have HOp := hid (open_iff clsP zs k hk)
      have HFl := hid (fin_len clsP zs (k + 1) hlt)
      clear c1
      generalize zs[k] = x at *
      by_cases hc : clsP x = 0
      · have HE := hid (HF0.out hc)
        rw [hc] at HV
        clear hc
        go_wp2_with fail
        refine HV.out.mono ?_
        rintro e w1 ⟨rfl, hb1⟩
        have HN : Hid (w1.ownsRow w.heap.size 36 2 (.slice (some ⟨gg, 0, none⟩) N cp) N ((finR (stR clsP (zs.take k))).flatMap p2) ∧ Ok w.heap.size w w1) := ⟨Uc.own_below H.out.2.1 hb1, H.out.2.2.step hb1⟩
        clear hb1
        go_wp2_with fail
        go_roundg (zs.length - (k + 1))
        case measure => rw [HG.out]; omega
        case rel => exact ⟨k + 1, N, cp, gg, by go_num, rfl, by omega, by omega, rfl, by rw [HE.out]; exact H.out.1, by rw [HE.out]; exact HN.out.1, HN.out.2⟩
      · have hc2 : (clsP x == 0) = false := by simpa using hc
        obtain ⟨L, f, hL1, hL2⟩ := HF1.out hc
        have HL1 := hid hL1
        generalize clsP x = cx at *
        rcases hL2 with ⟨hop, hL2, hfk⟩ | ⟨hop, hL2⟩
        · -- a new run
          rw [hfk] at HL1
          clear hfk
          have HL2 := hid hL2
          have hk0 := hid (HOp.out.1 hop)
          clear hL1 hL2 hop HF0 HF1
          have hLN : L.length = N := by have := H.out.1; rwa [HL2.out] at this
          have HLN := hid hLN
          have HCell : Hid (∀ (W : World) g2 c2, W.ownsRow w.heap.size 36 2 (.slice (some ⟨g2, 0, none⟩) (N + 1) c2) (N + 1) (L.flatMap p2 ++ p2 (k, k)) → W.cell? ⟨g2, N * 2 + 1, none⟩ = some (.int .i64 (k : Int))) := fun W g2 c2 h => by
            rw [own_cell h (N * 2 + 1) (by rw [List.length_append, p2_len, hLN]; simp [p2]), List.getElem?_append_right (by rw [p2_len, hLN]; omega), p2_len, hLN, show N * 2 + 1 - N * 2 = 1 by omega]
            rfl
          clear hLN
          by_cases hkz : k = 0
          · have qz : ((k : Int) == 0) = true := by simpa using hkz
            clear hkz
            go_wp2_with fail
            refine HV.out.mono ?_
            rintro e w1 ⟨rfl, hb1⟩
            have HN : Hid (w1.ownsRow w.heap.size 36 2 (.slice (some ⟨gg, 0, none⟩) N cp) N (L.flatMap p2) ∧ Ok w.heap.size w w1) := ⟨by have h := Uc.own_below H.out.2.1 hb1; rwa [HL2.out] at h, H.out.2.2.step hb1⟩
            clear hb1
            go_wp2_with (at_builtin; refine wpList_append_own_at _ rfl (.tmp 29) (.tmp 33) 33 rfl w.heap.size 36 i0 (.agg #[.int .i64 0, .int .i64 0]) 2 16 Try.underlying33 HIn.out.1 HIn.out.2.1 HIn.out.2.2.1 HIn.out.2.2.2 rfl (by decide) _ N (L.flatMap p2) rfl (HN.out.1.alloc _) ⟨w1.heap.size, 0, none⟩ 1 1 (p2 (k, k)) rfl rfl (World.news_of_block (heap_new w1 _)) (fun u hu => by simp [p2] at hu; subst hu; rfl) (by unfold maxLen; omega) (by omega) (by have := HN.out.2.2; simp; omega) (fun v' w' h1 h2 _ _ => ?_); obtain ⟨g2, cp2', rfl⟩ := own_form h1 (Nat.succ_pos N); have HW : Hid (w'.ownsRow w.heap.size 36 2 (.slice (some ⟨g2, 0, none⟩) (N + 1) cp2') (N + 1) (L.flatMap p2 ++ p2 (k, k)) ∧ Ok w.heap.size w w') := ⟨h1, ok_below (((Below.refl _ _).alloc HN.out.2.2 _).trans (below_of_grown h2 w.heap.size (by have := HN.out.2.2; simp; omega) (fun q e => (HN.out.1.lt q e).1))) HN.out.2⟩; clear h1 h2; have eN : IntKind.i64.wrap ((N : Int) + 1 - 1) = (N : Int) := (by rw [IntKind.wrap_i64]; omega); have cN : w'.cell? ⟨g2, N * 2 + 1, none⟩ = some (.int .i64 (k : Int)) := HCell.out w' g2 cp2' HW.out.1; have fN := own_frozen HW.out.1 (N * 2 + 1))
            have HFin : Hid ((w'.setCell ⟨g2, N * 2 + 1, none⟩ (.int .i64 ((k : Int) + 1))).ownsRow w.heap.size 36 2 (.slice (some ⟨g2, 0, none⟩) (N + 1) cp2') (N + 1) ((L ++ [(k, k + 1)]).flatMap p2) ∧ Ok w.heap.size w (w'.setCell ⟨g2, N * 2 + 1, none⟩ (.int .i64 ((k : Int) + 1)))) := by
              have h1 := own_set HW.out.1 (N * 2 + 1) (.int .i64 ((k : Int) + 1))
              have e1 := set_last L k k (k + 1)
              rw [show ((k + 1 : Nat) : Int) = (k : Int) + 1 by omega, HLN.out] at e1
              rw [show L.flatMap p2 ++ p2 (k, k) = (L ++ [(k, k)]).flatMap p2 by simp, e1] at h1
              exact ⟨h1, HW.out.2.1.setCell (p := ⟨g2, N * 2 + 1, none⟩) (own_lo HW.out.1) _, by simpa [World.setCell] using HW.out.2.2⟩
            go_roundg (zs.length - (k + 1))
            case measure => rw [HG.out]; omega
            case rel => exact ⟨k + 1, N + 1, cp2', g2, by go_num, rfl, by omega, by omega, rfl, by rw [HL1.out, List.length_append, HLN.out]; rfl, by rw [HL1.out]; exact HFin.out.1, HFin.out.2⟩
          · have qz : ((k : Int) == 0) = false := by simpa using hkz
            obtain ⟨kp, hkp⟩ : ∃ kp, kp + 1 = k := ⟨k - 1, by omega⟩
            have hkl : kp < zs.length := by omega
            have hk2 : clsP zs[kp] = 0 := by
              rcases hk0.out with h | h
              · omega
              · rwa [show k - 1 = kp by omega, getD_at hkl] at h
            obtain ⟨b', off', e0, hb', cp2⟩ := HS.out.at_ kp hkl
            have e3 : b = b' ∧ off = off' := by
              have := Option.some.inj e0
              injection this with a1 a2 _
              exact ⟨a1, a2⟩
            obtain ⟨rfl, rfl⟩ := e3
            have HV2 := hid (fun W => HCl.out zs[kp] W)
            rw [hk2] at HV2
            have q0 : IntKind.i64.wrap ((k : Int) - 1) = (kp : Int) := by rw [IntKind.wrap_i64]; omega
            clear hk2 hk0 hkz hkp
            generalize zs[kp] = y at *
            have q1 : (kp : Int) < (zs.length : Int) := by omega
            go_wp2_with fail
            refine HV.out.mono ?_
            rintro e w1 ⟨rfl, hb1⟩
            have HN : Hid (w1.ownsRow w.heap.size 36 2 (.slice (some ⟨gg, 0, none⟩) N cp) N (L.flatMap p2) ∧ Ok w.heap.size w w1) := ⟨by have h := Uc.own_below H.out.2.1 hb1; rwa [HL2.out] at h, H.out.2.2.step hb1⟩
            clear hb1
            have d2 := (HN.out.2.1.cell (p := ⟨b, off + kp, none⟩) hb).trans cp2
            go_wp2_with fail
            refine (HV2.out _).mono ?_
            rintro e w2 ⟨rfl, hb2⟩
            replace HN : Hid (w2.ownsRow w.heap.size 36 2 (.slice (some ⟨gg, 0, none⟩) N cp) N (L.flatMap p2) ∧ Ok w.heap.size w w2) := ⟨Uc.own_below HN.out.1 hb2, HN.out.2.step hb2⟩
            clear hb2
            go_wp2_with (at_builtin; refine wpList_append_own_at _ rfl (.tmp 29) (.tmp 33) 33 rfl w.heap.size 36 i0 (.agg #[.int .i64 0, .int .i64 0]) 2 16 Try.underlying33 HIn.out.1 HIn.out.2.1 HIn.out.2.2.1 HIn.out.2.2.2 rfl (by decide) _ N (L.flatMap p2) rfl (HN.out.1.alloc _) ⟨w2.heap.size, 0, none⟩ 1 1 (p2 (k, k)) rfl rfl (World.news_of_block (heap_new w2 _)) (fun u hu => by simp [p2] at hu; subst hu; rfl) (by unfold maxLen; omega) (by omega) (by have := HN.out.2.2; simp; omega) (fun v' w' h1 h2 _ _ => ?_); obtain ⟨g2, cp2', rfl⟩ := own_form h1 (Nat.succ_pos N); have HW : Hid (w'.ownsRow w.heap.size 36 2 (.slice (some ⟨g2, 0, none⟩) (N + 1) cp2') (N + 1) (L.flatMap p2 ++ p2 (k, k)) ∧ Ok w.heap.size w w') := ⟨h1, ok_below (((Below.refl _ _).alloc HN.out.2.2 _).trans (below_of_grown h2 w.heap.size (by have := HN.out.2.2; simp; omega) (fun q e => (HN.out.1.lt q e).1))) HN.out.2⟩; clear h1 h2; have eN : IntKind.i64.wrap ((N : Int) + 1 - 1) = (N : Int) := (by rw [IntKind.wrap_i64]; omega); have cN : w'.cell? ⟨g2, N * 2 + 1, none⟩ = some (.int .i64 (k : Int)) := HCell.out w' g2 cp2' HW.out.1; have fN := own_frozen HW.out.1 (N * 2 + 1))
            have HFin : Hid ((w'.setCell ⟨g2, N * 2 + 1, none⟩ (.int .i64 ((k : Int) + 1))).ownsRow w.heap.size 36 2 (.slice (some ⟨g2, 0, none⟩) (N + 1) cp2') (N + 1) ((L ++ [(k, k + 1)]).flatMap p2) ∧ Ok w.heap.size w (w'.setCell ⟨g2, N * 2 + 1, none⟩ (.int .i64 ((k : Int) + 1)))) := by
              have h1 := own_set HW.out.1 (N * 2 + 1) (.int .i64 ((k : Int) + 1))
              have e1 := set_last L k k (k + 1)
              rw [show ((k + 1 : Nat) : Int) = (k : Int) + 1 by omega, HLN.out] at e1
              rw [show L.flatMap p2 ++ p2 (k, k) = (L ++ [(k, k)]).flatMap p2 by simp, e1] at h1
              exact ⟨h1, HW.out.2.1.setCell (p := ⟨g2, N * 2 + 1, none⟩) (own_lo HW.out.1) _, by simpa [World.setCell] using HW.out.2.2⟩
            go_roundg (zs.length - (k + 1))
            case measure => rw [HG.out]; omega
            case rel => exact ⟨k + 1, N + 1, cp2', g2, by go_num, rfl, by omega, by omega, rfl, by rw [HL1.out, List.length_append, HLN.out]; rfl, by rw [HL1.out]; exact HFin.out.1, HFin.out.2⟩
        · -- one goes on
          have HL2 := hid hL2
          have hk0 : Hid (k ≠ 0 ∧ clsP (zs.getD (k - 1) 0) ≠ 0) := by
            have h1 := fun h => hop (HOp.out.2 h)
            exact ⟨fun h => h1 (.inl h), fun h => h1 (.inr h)⟩
          clear hL1 hL2 hop HF0 HF1
          obtain ⟨M, rfl⟩ : ∃ M, N = M + 1 := ⟨L.length, by have := H.out.1; rw [HL2.out, List.length_append] at this; simpa using this.symm⟩
          have HLN : Hid (L.length = M) := hid (by have := H.out.1; rw [HL2.out, List.length_append] at this; simpa using this)
          have qz : ((k : Int) == 0) = false := by have := hk0.out.1; simpa using this
          obtain ⟨kp, hkp⟩ : ∃ kp, kp + 1 = k := ⟨k - 1, by have := hk0.out.1; omega⟩
          have hkl : kp < zs.length := by omega
          have hk2 : clsP zs[kp] ≠ 0 := by
            have h := hk0.out.2
            rwa [show k - 1 = kp by omega, getD_at hkl] at h
          obtain ⟨b', off', e0, hb', cp2⟩ := HS.out.at_ kp hkl
          have e3 : b = b' ∧ off = off' := by
            have := Option.some.inj e0
            injection this with a1 a2 _
            exact ⟨a1, a2⟩
          obtain ⟨rfl, rfl⟩ := e3
          have HV2 := hid (fun W => HCl.out zs[kp] W)
          have hk3 : (clsP zs[kp] == 0) = false := by simpa using hk2
          have q0 : IntKind.i64.wrap ((k : Int) - 1) = (kp : Int) := by rw [IntKind.wrap_i64]; omega
          clear hk2 hk0 hkp
          generalize clsP zs[kp] = cy at *
          generalize zs[kp] = y at *
          have q1 : (kp : Int) < (zs.length : Int) := by omega
          go_wp2_with fail
          refine HV.out.mono ?_
          rintro e w1 ⟨rfl, hb1⟩
          have HN : Hid (w1.ownsRow w.heap.size 36 2 (.slice (some ⟨gg, 0, none⟩) (M + 1) cp) (M + 1) ((L ++ [(f, k)]).flatMap p2) ∧ Ok w.heap.size w w1) := ⟨by have h := Uc.own_below H.out.2.1 hb1; rwa [HL2.out] at h, H.out.2.2.step hb1⟩
          clear hb1
          have d2 := (HN.out.2.1.cell (p := ⟨b, off + kp, none⟩) hb).trans cp2
          go_wp2_with fail
          refine (HV2.out _).mono ?_
          rintro e w2 ⟨rfl, hb2⟩
          replace HN : Hid (w2.ownsRow w.heap.size 36 2 (.slice (some ⟨gg, 0, none⟩) (M + 1) cp) (M + 1) ((L ++ [(f, k)]).flatMap p2) ∧ Ok w.heap.size w w2) := ⟨Uc.own_below HN.out.1 hb2, HN.out.2.step hb2⟩
          clear hb2
          have eN : IntKind.i64.wrap ((M : Int) + 1 - 1) = (M : Int) := by rw [IntKind.wrap_i64]; omega
          have cN : w2.cell? ⟨gg, M * 2 + 1, none⟩ = some (.int .i64 (k : Int)) := by
            rw [own_cell HN.out.1 (M * 2 + 1) (by rw [p2_len, List.length_append, HLN.out]; simp; omega), List.flatMap_append, List.getElem?_append_right (by rw [p2_len, HLN.out]; omega), p2_len, HLN.out, show M * 2 + 1 - M * 2 = 1 by omega]
            rfl
          have fN := own_frozen HN.out.1 (M * 2 + 1)
          have HFin : Hid ((w2.setCell ⟨gg, M * 2 + 1, none⟩ (.int .i64 ((k : Int) + 1))).ownsRow w.heap.size 36 2 (.slice (some ⟨gg, 0, none⟩) (M + 1) cp) (M + 1) ((L ++ [(f, k + 1)]).flatMap p2) ∧ Ok w.heap.size w (w2.setCell ⟨gg, M * 2 + 1, none⟩ (.int .i64 ((k : Int) + 1)))) := by
            have h1 := own_set HN.out.1 (M * 2 + 1) (.int .i64 ((k : Int) + 1))
            have e1 := set_last L f k (k + 1)
            rw [show ((k + 1 : Nat) : Int) = (k : Int) + 1 by omega, HLN.out] at e1
            rw [e1] at h1
            exact ⟨h1, HN.out.2.1.setCell (p := ⟨gg, M * 2 + 1, none⟩) (own_lo HN.out.1) _, by simpa [World.setCell] using HN.out.2.2⟩
          go_wp2_with fail
          go_roundg (zs.length - (k + 1))
          case measure => rw [HG.out]; omega
          case rel => exact ⟨k + 1, M + 1, cp, gg, by go_num, rfl, by omega, by omega, rfl, by rw [HL1.out, List.length_append, HLN.out]; rfl, by rw [HL1.out]; exact HFin.out.1, HFin.out.2⟩
    · have e : k = zs.length := by omega
      subst e
      go_wp2_with fail
      go_ret
      refine ⟨_, rfl, ?_, H.out.2.2.1⟩
      have h1 := H.out.2.1
      have h2 := H.out.1
      rw [List.take_length] at h1 h2
      subst h2
      exact own_ps h1
end Od
end Go.Proofs.Ytclcmkklonnalaa

namespace Go.Proofs.Ytclcmkklonnalaa
namespace Od
open Go.RowKit

theorem Try.guard2 : Try.prog.eqGuardType Try.prog.depth 36 = false := by kernel_rfl
theorem run_eq2 (w : World) (a b : Int) : (Op.equalIn 10000 36 (.agg #[.int .i64 a, .int .i64 b]) (.agg #[.int .i64 a, .int .i64 b])).run Try.prog w = .ok true w := by
  have hs : (Try.prog.info? 3).isSome = true := by kernel_rfl
  obtain ⟨i, hi⟩ := Option.isSome_iff_exists.1 hs
  have hc : Try.prog.cellsOf 3 = 1 := by kernel_rfl
  rw [show 10000 = 9999 + 1 from rfl, run_equalIn_array w 9999 _ _ Try.underlying36 hi, hc]
  have hp : ∀ (cs : Array Value) (off : Nat) (w : World), (part 3 cs off).run Try.prog w = (match cs[off]? with | some v => Result.ok v w | none => (part 3 cs off).run Try.prog w) := fun cs off w => by
    cases h : cs[off]? with
    | none => rfl
    | some v => simp [part, isAgg, run_underlying Try.underlying3, h]
  have he : ∀ (a b : Int) (w : World), (Op.equalIn 9999 3 (.int .i64 a) (.int .i64 b)).run Try.prog w = .ok (a == b) w := fun a b w => run_equalIn_int w 9998 3 .i64 .i64 a b Try.underlying3
  simp [List.range, List.range.loop, Op.eqItems, hp, he]
end Od
end Go.Proofs.Ytclcmkklonnalaa
