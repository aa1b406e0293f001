import Derived.Test.YtoknfhjclpdihaaPu31
namespace Go.Proofs.Ytoknfhjclpdihaa
namespace Pu
open Go.RowKit Od

/-- What the reference's Decode answers. -/
def rdcV (r : Sum Int (List Int)) (e : Ending) (w' : World) : Prop := match r with
  | .inl x => e = .returned (.tuple #[.slice none 0 0, .int .i64 x])
  | .inr l => ∃ v, e = .returned (.tuple #[v, .int .i64 0]) ∧ Sn .i64 w' v l
theorem over_iff (pc c v : Int) (hc : 1 ≤ c) : (2147483647 - pc) / c < v ↔ 2147483647 < pc + v * c := by
  constructor
  · intro h
    by_cases h2 : 2147483647 < pc + v * c
    · exact h2
    · have := Int.le_ediv_of_mul_le (c := c) (a := v) (b := 2147483647 - pc) (by omega) (by omega)
      omega
  · intro h
    by_cases h2 : (2147483647 - pc) / c < v
    · exact h2
    · have e1 := Int.ediv_mul_le (2147483647 - pc) (b := c) (by omega)
      have e2 : v * c ≤ (2147483647 - pc) / c * c := Int.mul_le_mul_of_nonneg_right (by omega) (by omega)
      omega
theorem full_iff (c m : Int) (hm : 1 ≤ m) : 2147483647 / m < c ↔ 2147483647 < c * m := by
  have h := over_iff 0 m c hm
  rw [Int.sub_zero, Int.zero_add] at h
  exact h
theorem vl_le (b : Int) : vlP b ≤ 35 ∧ -1 ≤ vlP b := by
  unfold vlP
  split
  · omega
  · split
    · omega
    · split <;> omega
set_option maxRecDepth 100000 in
set_option maxHeartbeats 16000000 in
theorem rdec_any (s : ByteArray) (hs : s.size ≤ 1000) (i : Int) (hy : Hy (bsI s) i) (w : World) :
    Calls Try.prog 13 #[.string s] w fun e w' => rdcV (decP (bsI s) i) e w' ∧ Below w.heap.size w w' := by
  have HCut := hid (rcut_any s (by omega) i hy w)
  have HY := hid hy
  have HLn := hid (bsI_len s)
  obtain ⟨hi1, hi2⟩ : -1 ≤ i ∧ i < s.size := by have h1 := hy.1; have h2 := hy.2.1; rw [bsI_len] at h2; exact ⟨h1, h2⟩
  obtain ⟨m, hm⟩ : ∃ m : Nat, i.toNat = m := ⟨_, rfl⟩
  obtain ⟨a0, ha0⟩ : ∃ a0 : Nat, (i + 1).toNat = a0 := ⟨_, rfl⟩
  have HA : Hid (((bsI s).take m).length = m) := by show _ = _; rw [List.length_take, bsI_len]; omega
  have HDg := hid (dec_good (L := bsI s) (i := i))
  have HDb := hid (fun k => dec_bad (L := bsI s) (i := i) (k := k))
  rw [hm, ha0] at HDg
  rw [hm] at HDb
  have ea : i + 1 = (a0 : Int) := by omega
  have em : (a0 = 0 ∧ m = 0) ∨ a0 = m + 1 := by omega
  rw [ea] at HCut
  generalize decP (bsI s) i = DP at *
  have has : a0 ≤ s.size := by omega
  clear hy hi1 hi2 hm ha0 ea HY
  have HO : Hid (Own w.heap.size (w.alloc (.cells #[] 3)) (.slice (some ⟨w.heap.size, 0, none⟩) 0 0) []) := ⟨World.ownsRow_made w #[] 0 (Nat.le_refl _) (by unfold maxLen; omega) rfl, trivial⟩
  have hok := hid ((Ok.start w).alloc (o := .cells #[] 3))
  go_enter Try.func13, Try.ntmps13
  go_wp2_with fail
  refine HCut.out.mono ?_
  rintro e w1 ⟨rfl, rfl⟩
  clear HCut
  go_wp2_with fail
  go_loopg [5, 6] m (fun gg vo vi wr => ∃ k : Nat, vi = .int .i64 k ∧ k ≤ m ∧ gg = m - k ∧ Hid (Own w1.heap.size wr vo ((bsI s).take k) ∧ Ok w1.heap.size w1 wr ∧ ∀ j (hj : j < s.size), j < k → (s[j].toNat : Int) < 128))
  case atStart => exact ⟨0, rfl, Nat.zero_le _, rfl, HO.out, hok.out, fun j _ h => by omega⟩
  case round =>
    obtain ⟨k, rfl, hk, hg, H⟩ := hrel
    have HG := hid hg
    clear hg HO hok
    by_cases hlt : k < m
    · have hks : k < s.size := by omega
      have z0 : (k : Int) < (s.size : Int) := by omega
      have z1 : (k : Int) + 1 < (a0 : Int) := by omega
      have hx0 : (0 : Int) ≤ (s[k].toNat : Int) := by omega
      have hx1 : (s[k].toNat : Int) < 256 := by have := s[k].toNat_lt; omega
      by_cases hbad : (s[k].toNat : Int) < 128
      · have hq : ¬ 127 < (s[k].toNat : Int) := by omega
        have HN : Hid (∀ j (hj : j < s.size), j < k + 1 → (s[j].toNat : Int) < 128) := fun j hj h => by
          by_cases e : j = k
          · subst e; exact hbad
          · exact H.out.2.2 j hj (by omega)
        have hwr : IntKind.i64.wrap (s[k].toNat : Int) = (s[k].toNat : Int) := by rw [IntKind.wrap_i64]; omega
        have HT : Hid ((bsI s).take (k + 1) = (bsI s).take k ++ [(s[k].toNat : Int)]) := by show _ = _; rw [List.take_succ_eq_append_getElem (by rw [bsI_len]; exact hks), bsI_get s k hks]
        have HLk : Hid (((bsI s).take k).length = k) := by show _ = _; rw [List.length_take, bsI_len]; omega
        go_wp2_with (at_builtin; refine app_i64 rfl (.tmp 30) (.tmp 35) rfl wr w1.heap.size k _ (ivs .i64 ((bsI s).take k)) (s[k].toNat : Int) rfl wr.heap.size rfl rfl (by have h := H.out.1.1; rw [HLk.out] at h; exact h) (by omega) H.out.2.1.2 (fun v' w' h1 h2 => ?_))
        have H2 : Hid (Own w1.heap.size w' v' ((bsI s).take (k + 1)) ∧ Ok w1.heap.size w1 w') := by
          refine ⟨⟨?_, own_some h1 (Nat.succ_pos k)⟩, ok_below h2 H.out.2.1⟩
          rw [HT.out, List.length_append, HLk.out, ivs_snoc]; exact h1
        clear h1 h2
        go_roundg (m - (k + 1))
        case measure => rw [HG.out]; omega
        case rel => exact ⟨k + 1, by go_num, by omega, rfl, H2.out.1, H2.out.2, HN.out⟩
      · have hq : 127 < (s[k].toNat : Int) := by omega
        have HR : Hid (DP = .inl 9) := HDb.out k (by rw [HA.out]; exact hlt) (by rw [List.getElem_take, bsI_get s k hks]; omega)
        go_wp2_with fail
        try rw [Exit.noGoto_ret]
        go_ret2
        exact ⟨by rw [HR.out]; rfl, H.out.2.1.1⟩
    · have e : k = m := by omega
      subst e
      have z1 : ¬ (k : Int) + 1 < (a0 : Int) := by omega
      have HDec := hid (HDg.out (fun j hj => by
        rw [HA.out] at hj
        rw [List.getElem_take, bsI_get s j (by omega)]
        exact H.out.2.2 j (by omega) hj))
      have HOw := hid H.out.1
      have HOk := hid H.out.2.1
      clear H HDg HDb HG hk hlt
      generalize hR : rdS ((bsI s).drop a0).length ⟨128, 0, 72, ((bsI s).take k).length, []⟩ ((bsI s).drop a0) = R at HDec
      have HR0 := hid hR
      rw [HA.out, List.length_drop, HLn.out] at HR0
      clear hR
      go_wp2_with fail
      go_loopg [4, 5, 7, 8, 9, 10] (s.size - a0) (fun gg vat vo vn vp vb vbg wr2 => ∃ (i : Nat) (n pl bi : Int) (bg : Bool) (acc : List Ent), vat = .int .i64 i ∧ vn = .int .i64 n ∧ vp = .int .i64 pl ∧ vb = .int .i64 bi ∧ vbg = .bool bg ∧ a0 ≤ i ∧ i ≤ s.size ∧ gg = s.size - i ∧ 128 ≤ n ∧ n ≤ 1114111 ∧ 0 ≤ pl ∧ pl ≤ 10000 ∧ 0 ≤ bi ∧ bi ≤ 1000000000000 ∧ acc.length ≤ i ∧ Hid (rdS (s.size - i) ⟨n, pl, bi, k + acc.length, acc⟩ ((bsI s).drop i) = R ∧ Own w1.heap.size wr2 vo (putL ((bsI s).take k) acc) ∧ Ok w1.heap.size w1 wr2 ∧ (!bg) = (acc.length == 0)))
      case atStart => exact ⟨a0, 128, 0, 72, false, [], rfl, rfl, rfl, rfl, rfl, Nat.le_refl _, by omega, rfl, by omega, by omega, by omega, by omega, by omega, by omega, Nat.zero_le _, HR0.out, HOw.out, HOk.out, rfl⟩
      case round =>
        obtain ⟨i, n, pl, bi, bg, acc, rfl, rfl, rfl, rfl, rfl, hai, hi, hg, n1, n2, p1, p2, b1, b2, hac, H⟩ := hrel
        have HG := hid hg
        clear hg HOw HOk HR0
        obtain ⟨ao5, cap5, rfl⟩ := own_slice H.out.2.1.1
        have hst : (putL ((bsI s).take k) acc).length = k + acc.length := by rw [putL_len, HA.out]
        generalize hstE : k + acc.length = st at *
        have HstE := hid hstE
        rw [hst]
        have HSt' := hid hst
        have hst' : st ≤ 3000 := by omega
        clear hst hstE
        by_cases hlt : i < s.size
        · have z1 : (i : Int) < (s.size : Int) := by omega
          have HSt : Hid (R = rdS (s.size - i - 1 + 1) ⟨n, pl, bi, st, acc⟩ ((bsI s).drop i)) := by
            show _ = _
            rw [← H.out.1, show s.size - i - 1 + 1 = s.size - i by omega]
          have hne : (bsI s).drop i ≠ [] := by
            intro e
            have := congrArg List.length e
            rw [List.length_drop, HLn.out] at this
            simp at this
            omega
          rw [rdS_step _ _ _ hne] at HSt
          have HOw := hid H.out.2
          clear H hne
          go_wp2_with fail
          go_loopg [4, 8, 12, 13] (s.size - i) (fun gg vat vp vc vk wr3 => ∃ (j : Nat) (pc c k2 : Int), vat = .int .i64 j ∧ vp = .int .i64 pc ∧ vc = .int .i64 c ∧ vk = .int .i64 k2 ∧ i ≤ j ∧ j ≤ s.size ∧ gg = s.size - j ∧ pl ≤ pc ∧ pc ≤ 2147483647 ∧ 1 ≤ c ∧ c ≤ 2147483647 ∧ 0 ≤ k2 ∧ k2 ≤ 36 + 36 * j ∧ wr3 = wr ∧ Hid (rdD bi ((bsI s).drop i) pl 1 36 = rdD bi ((bsI s).drop j) pc c k2))
          case atStart => exact ⟨i, pl, 1, 36, rfl, rfl, rfl, rfl, Nat.le_refl _, by omega, rfl, Int.le_refl _, by omega, by omega, by omega, by omega, by omega, rfl, rfl⟩
          case round =>
            obtain ⟨j, pc, c, k2, rfl, rfl, rfl, rfl, hij, hjs, hg2, c1, c2, c3, c4, k1, k2', rfl, HD⟩ := hrel
            have HG2 := hid hg2
            clear hg2
            by_cases hlt2 : j < s.size
            · have z2 : (j : Int) < (s.size : Int) := by omega
              have hdj := bsI_drop s j hlt2
              have HV := hid (rvalue_any (s[j].toNat : Int) wr)
              have HE : Hid (rdD bi ((bsI s).drop i) pl 1 36 = if vlP (s[j].toNat : Int) < 0 then .inl 9 else if (2147483647 - pc) / c < vlP (s[j].toNat : Int) then .inl 11 else if vlP (s[j].toNat : Int) < thP k2 bi then .inr (pc + vlP (s[j].toNat : Int) * c, (bsI s).drop (j + 1)) else if 2147483647 / (36 - thP k2 bi) < c then .inl 11 else rdD bi ((bsI s).drop (j + 1)) (pc + vlP (s[j].toNat : Int) * c) (c * (36 - thP k2 bi)) (k2 + 36)) := by
                show _ = _
                rw [HD.out, hdj]; rfl
              have hvm := vl_le (s[j].toNat : Int)
              clear HD hdj
              generalize vlP (s[j].toNat : Int) = v at *
              by_cases hv : v < 0
              · have HR : Hid (R = .inl 9) := by show _ = _; rw [HSt.out, HE.out, if_pos hv]
                go_wp2_with fail
                refine HV.out.mono ?_
                rintro e w4 ⟨rfl, rfl⟩
                go_wp2_with fail
                try rw [Exit.noGoto_ret]
                go_ret2
                exact ⟨by rw [HDec.out, HR.out]; rfl, HOw.out.2.1.1⟩
              · rw [if_neg hv] at HE
                have HOi := hid (over_iff pc c v c3)
                have hv0 : 0 ≤ v := by omega
                obtain ⟨X, hX⟩ : ∃ X, v * c = X := ⟨_, rfl⟩
                have X0 : 0 ≤ X := by rw [← hX]; exact Int.mul_nonneg (by omega) (by omega)
                have X1 : X ≤ 35 * 2147483647 := by rw [← hX]; exact Int.mul_le_mul hvm.1 c4 (by omega) (by omega)
                rw [hX] at HE HOi
                by_cases hq : 2147483647 < pc + X
                · have HR : Hid (R = .inl 11) := by show _ = _; rw [HSt.out, HE.out, if_pos (HOi.out.2 hq)]
                  go_wp2_with fail
                  refine HV.out.mono ?_
                  rintro e w4 ⟨rfl, rfl⟩
                  go_wp2_with fail
                  refine HV.out.mono ?_
                  rintro e w4 ⟨rfl, rfl⟩
                  go_wp2_with fail
                  try rw [Exit.noGoto_ret]
                  go_ret2
                  exact ⟨by rw [HDec.out, HR.out]; rfl, HOw.out.2.1.1⟩
                · rw [if_neg (fun h => hq (HOi.out.1 h))] at HE
                  clear HOi
                  have HT := hid (rthr_any k2 bi wr (by omega) (by omega))
                  have ht := th_bd k2 bi
                  generalize thP k2 bi = t at *
                  by_cases hvt : v < t
                  · rw [if_pos hvt] at HE
                    obtain ⟨P2, hP2⟩ : ∃ P2, pc + X = P2 := ⟨_, rfl⟩
                    obtain ⟨qd, hqd⟩ : ∃ qd, P2 / ((st : Int) + 1) = qd := ⟨_, rfl⟩
                    obtain ⟨rm, hrm⟩ : ∃ rm, P2 % ((st : Int) + 1) = rm := ⟨_, rfl⟩
                    obtain ⟨dl, hdl⟩ : ∃ dl, P2 - pl = dl := ⟨_, rfl⟩
                    have q0 : 0 ≤ qd := by rw [← hqd]; exact Int.ediv_nonneg (by omega) (by omega)
                    have q1 : qd ≤ P2 := by rw [← hqd]; exact Int.ediv_le_self _ (by omega)
                    have r0 : 0 ≤ rm := by rw [← hrm]; exact Int.emod_nonneg _ (by omega)
                    have r1 : rm < (st : Int) + 1 := by rw [← hrm]; exact Int.emod_lt_of_pos _ (by omega)
                    have hsz : ¬ ((st : Int) + 1 = 0) := by omega
                    have HS2 : Hid (R = if 2147483647 - n < qd then .inl 11 else if 1114111 < n + qd then .inl 7 else rdS (s.size - i - 1) ⟨n + qd, rm + 1, (adP dl.toNat (st + 1) (acc.length == 0) : Nat), st + 1, acc ++ [(n + qd, rm)]⟩ ((bsI s).drop (j + 1))) := by
                      show _ = _
                      rw [HSt.out, HE.out, hP2]
                      simp only
                      rw [hqd, hrm, hdl]
                    have hl2 : ((bsI s).drop (j + 1)).length = s.size - (j + 1) := by rw [List.length_drop, HLn.out]
                    have HFu := hid (fun d => rdS_fuel (s.size - i - 1) (s.size - (j + 1)) d ((bsI s).drop (j + 1)) (by omega) (by omega))
                    have HAda : Hid (∀ W, Calls Try.prog 20 #[.int .i64 dl, .int .i64 ((st : Int) + 1), .bool (!bg)] W fun e w' => e = .returned (.int .i64 (adP dl.toNat (st + 1) (acc.length == 0) : Nat)) ∧ w' = W) := by
                      refine hid (fun W => ?_)
                      have h1 := rada_any dl ((st : Int) + 1) (!bg) W (by omega) (by omega)
                      rw [if_neg (by omega), show ((st : Int) + 1).toNat = st + 1 by omega] at h1
                      rw [HOw.out.2.2] at h1 ⊢
                      exact h1
                    have hnb := ad_le dl.toNat (st + 1) (acc.length == 0)
                    have HBg := hid HOw.out.2.2
                    clear HE HSt hl2
                    generalize adP dl.toNat (st + 1) (acc.length == 0) = nb at *
                    by_cases hn1 : 2147483647 < n + qd
                    · have HR : Hid (R = .inl 11) := by show _ = _; rw [HS2.out, if_pos (by omega)]
                      go_wp2_with fail
                      refine HV.out.mono ?_
                      rintro e w4 ⟨rfl, rfl⟩
                      go_wp2_with fail
                      refine HV.out.mono ?_
                      rintro e w4 ⟨rfl, rfl⟩
                      go_wp2_with fail
                      refine HT.out.mono ?_
                      rintro e w4 ⟨rfl, rfl⟩
                      go_wp2_with fail
                      refine (HAda.out _).mono ?_
                      rintro e w4 ⟨rfl, rfl⟩
                      go_wp2_with fail
                      try rw [Exit.noGoto_ret]
                      go_ret2
                      exact ⟨by rw [HDec.out, HR.out]; rfl, HOw.out.2.1.1⟩
                    · by_cases hn2 : 1114111 < n + qd
                      · have HR : Hid (R = .inl 7) := by show _ = _; rw [HS2.out, if_neg (by omega), if_pos hn2]
                        go_wp2_with fail
                        refine HV.out.mono ?_
                        rintro e w4 ⟨rfl, rfl⟩
                        go_wp2_with fail
                        refine HV.out.mono ?_
                        rintro e w4 ⟨rfl, rfl⟩
                        go_wp2_with fail
                        refine HT.out.mono ?_
                        rintro e w4 ⟨rfl, rfl⟩
                        go_wp2_with fail
                        refine (HAda.out _).mono ?_
                        rintro e w4 ⟨rfl, rfl⟩
                        go_wp2_with fail
                        try rw [Exit.noGoto_ret]
                        go_ret2
                        exact ⟨by rw [HDec.out, HR.out]; rfl, HOw.out.2.1.1⟩
                      · have HR : Hid (rdS (s.size - (j + 1)) ⟨n + qd, rm + 1, (nb : Nat), k + (acc ++ [(n + qd, rm)]).length, acc ++ [(n + qd, rm)]⟩ ((bsI s).drop (j + 1)) = R) := by
                          show _ = _
                          rw [HS2.out, if_neg (by omega), if_neg hn2, HFu.out, List.length_append, List.length_singleton, ← Nat.add_assoc, HstE.out]
                        obtain ⟨p, hp⟩ : ∃ p : Nat, rm = p := ⟨rm.toNat, by omega⟩
                        have HPut : Hid (Calls Try.prog 33 #[.slice ao5 st cap5, .int .i64 rm, .int .i64 (n + qd)] wr fun e w' => ∃ v', e = .returned v' ∧ Own wr.heap.size w' v' (putL ((bsI s).take k) (acc ++ [(n + qd, rm)])) ∧ Below wr.heap.size wr w') := by
                          have hsn := HOw.out.1.sn
                          rw [HSt'.out] at hsn
                          have h1 := rput_any hsn p (by rw [HSt'.out]; omega) (by rw [HSt'.out]; omega) (n + qd)
                          rw [putL_snoc, hp, Int.toNat_natCast]
                          exact h1
                        have hal : (acc ++ [(n + qd, rm)]).length ≤ j + 1 := by rw [List.length_append, List.length_singleton]; omega
                        have HBg2 : Hid ((!true) = ((acc ++ [(n + qd, rm)]).length == 0)) := by show _ = _; rw [List.length_append, List.length_singleton]; rfl
                        generalize acc ++ [(n + qd, rm)] = acc2 at *
                        clear HS2 HFu hp
                        go_wp2_with fail
                        refine HV.out.mono ?_
                        rintro e w4 ⟨rfl, rfl⟩
                        go_wp2_with fail
                        refine HV.out.mono ?_
                        rintro e w4 ⟨rfl, rfl⟩
                        go_wp2_with fail
                        refine HT.out.mono ?_
                        rintro e w4 ⟨rfl, rfl⟩
                        go_wp2_with fail
                        refine (HAda.out _).mono ?_
                        rintro e w4 ⟨rfl, rfl⟩
                        go_wp2_with fail
                        refine HPut.out.mono ?_
                        rintro e w5 ⟨v5, rfl, h1, h2⟩
                        have H2 : Hid (Own w1.heap.size w5 v5 (putL ((bsI s).take k) acc2) ∧ Ok w1.heap.size w1 w5) := ⟨h1.base HOw.out.2.1.2, HOw.out.2.1.step h2⟩
                        clear h1 h2
                        go_wp2_with fail
                        go_roundg (s.size - (j + 1))
                        case measure => rw [HG.out]; omega
                        case rel => exact ⟨j + 1, n + qd, rm + 1, nb, true, acc2, by go_num, rfl, by go_num, rfl, rfl, by omega, by omega, rfl, by omega, by omega, by omega, by omega, by omega, by omega, hal, HR.out, H2.out.1, H2.out.2, HBg2.out⟩
                  · rw [if_neg hvt] at HE
                    have HFi := hid (full_iff c (36 - t) (by omega))
                    obtain ⟨Y, hY⟩ : ∃ Y, c * (36 - t) = Y := ⟨_, rfl⟩
                    have Y0 : 1 ≤ Y := by
                      have e2 : 1 * (36 - t) ≤ c * (36 - t) := Int.mul_le_mul_of_nonneg_right (by omega) (by omega)
                      omega
                    have Y2 : Y ≤ 2147483647 * 35 := by rw [← hY]; exact Int.mul_le_mul c4 (by omega) (by omega) (by omega)
                    rw [hY] at HE HFi
                    by_cases hdc : 2147483647 < Y
                    · have HR : Hid (R = .inl 11) := by show _ = _; rw [HSt.out, HE.out, if_pos (HFi.out.2 hdc)]
                      go_wp2_with fail
                      refine HV.out.mono ?_
                      rintro e w4 ⟨rfl, rfl⟩
                      go_wp2_with fail
                      refine HV.out.mono ?_
                      rintro e w4 ⟨rfl, rfl⟩
                      go_wp2_with fail
                      refine HT.out.mono ?_
                      rintro e w4 ⟨rfl, rfl⟩
                      go_wp2_with fail
                      try rw [Exit.noGoto_ret]
                      go_ret2
                      exact ⟨by rw [HDec.out, HR.out]; rfl, HOw.out.2.1.1⟩
                    · rw [if_neg (fun h => hdc (HFi.out.1 h))] at HE
                      clear HFi
                      go_wp2_with fail
                      refine HV.out.mono ?_
                      rintro e w4 ⟨rfl, rfl⟩
                      go_wp2_with fail
                      refine HV.out.mono ?_
                      rintro e w4 ⟨rfl, rfl⟩
                      go_wp2_with fail
                      refine HT.out.mono ?_
                      rintro e w4 ⟨rfl, rfl⟩
                      go_wp2_with fail
                      go_roundg (s.size - (j + 1))
                      case measure => rw [HG2.out]; omega
                      case rel => exact ⟨j + 1, pc + X, Y, k2 + 36, by go_num, by go_num, by go_num, by go_num, by omega, by omega, rfl, by omega, by omega, Y0, by omega, by omega, by omega, rfl, HE.out⟩
            · have HR : Hid (R = .inl 9) := by
                show _ = _
                rw [HSt.out, HD.out, List.drop_eq_nil_of_le (by rw [HLn.out]; omega)]
                rfl
              have z2 : (s.size : Int) ≤ (j : Int) := by omega
              go_wp2_with fail
              try rw [Exit.noGoto_ret]
              go_ret2
              exact ⟨by rw [HDec.out, HR.out]; rfl, HOw.out.2.1.1⟩
        · have e : i = s.size := by omega
          subst e
          have z1 : ¬ (s.size : Int) < (s.size : Int) := by omega
          have HR : Hid (R = .inr acc) := by
            show _ = _
            rw [← H.out.1, Nat.sub_self]
            rfl
          go_wp2_with fail
          go_ret2
          refine ⟨?_, H.out.2.2.1.1⟩
          rw [HDec.out, HR.out]
          have hsn := H.out.2.1.sn
          rw [HSt'.out] at hsn
          exact ⟨_, rfl, hsn⟩
end Pu
end Go.Proofs.Ytoknfhjclpdihaa
