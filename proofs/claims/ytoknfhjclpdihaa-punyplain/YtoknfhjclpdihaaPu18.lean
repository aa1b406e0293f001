import Derived.Test.YtoknfhjclpdihaaPu17
namespace Go.Proofs.Ytoknfhjclpdihaa
namespace Pu
open Go.RowKit Od

set_option maxRecDepth 100000 in
set_option maxHeartbeats 8000000 in
theorem renc_ok {w : World} {v : Value} {zs : List Int} (hS : Sn .i64 w v zs) (hn : zs.length ≤ 100) (hz : ∀ z ∈ zs, 0 ≤ z ∧ z ≤ 1114111) :
    Calls Try.prog 9 #[v] w fun e w' => e = .returned (.tuple #[.string (byt (encP zs)), .int .i64 0]) ∧ Below w.heap.size w w' := by
  obtain ⟨ad, cap, rfl, hS⟩ := hS
  have HS := hid hS
  have HZ := hid hz
  have HRI := hid (RI.start zs hz)
  have HWr := hid (fun (d b : Int) (W : World) (h0 : 0 ≤ d) (h1 : d ≤ 2147483647) (hb : -1000000000 ≤ b ∧ b ≤ 1000000000) => rwrite_any d b W h0 h1 hb)
  have HAd := hid (fun (x y : Int) (f : Bool) (W : World) (hx : x ≤ 4294967296) (hy : y ≤ 4294967296) => rada_any x y f W hx hy)
  generalize hlen : zs.length = len at *
  have HLn := hid hlen
  clear hS hz hlen
  go_enter Try.func9, Try.ntmps9
  go_wp2_with fail
  go_loopg [4, 5] len (fun gg vs vi wr => ∃ k : Nat, vi = .int .i64 k ∧ vs = .string (byt (lowL (zs.take k))) ∧ k ≤ len ∧ gg = len - k ∧ Hid (Ok w.heap.size w wr))
  case atStart => exact ⟨0, rfl, rfl, Nat.zero_le _, rfl, Ok.start w⟩
  case round =>
    obtain ⟨k, rfl, rfl, hk, hg, H⟩ := hrel
    have HG := hid hg
    clear hg
    by_cases hlt : k < len
    · have hlx : k < zs.length := by rw [HLn.out]; exact hlt
      obtain ⟨bb, off, e0, hb, c1⟩ := HS.out.at_ k hlx
      have e0' := Option.some.inj e0
      subst e0'
      have d1 := (H.out.1.cell (p := ⟨bb, off + k, none⟩) hb).trans c1
      have hx := HZ.out zs[k] (List.getElem_mem hlx)
      have HL := hid (lowL_succ zs k hlx)
      have hll : (lowL (zs.take k)).length ≤ 1000 := by
        unfold lowL
        have h1 := List.length_filter_le (fun z : Int => decide (z < 128)) (zs.take k)
        rw [List.length_take] at h1
        omega
      have z1 : (k : Int) < (len : Int) := by omega
      clear c1
      generalize zs[k] = x at *
      have hx0 : ¬ x < 0 := by omega
      have hx1 : ¬ 1114111 < x := by omega
      by_cases hx2 : x < 128
      · rw [if_pos hx2] at HL
        have q1 : IntKind.u8.wrap x = x := by rw [IntKind.wrap_u8]; omega
        have hcv : (convert 50 9 (.slice (some ⟨wr.heap.size, 0, none⟩) 1 1)).run Try.prog (wr.alloc (.cells #[.int .u8 x] 5)) = .ok (.string (byt [x])) (wr.alloc (.cells #[.int .u8 x] 5)) := by
          have hby : By wr.heap.size (wr.alloc (.cells #[.int .u8 x] 5)) (.slice (some ⟨wr.heap.size, 0, none⟩) 1 1) [x] := ⟨⟨by simp [ivs], .inr ⟨wr.heap.size, 1, _, rfl, Nat.le_refl _, heap_new wr _, Nat.le_refl _, by unfold maxLen; omega, by simp, by simp [ivs]⟩⟩, by simp⟩
          exact conv_byt hby (fun y hy => by simp at hy; omega)
        have hsz : ¬ 9223372036854775807 < (byt (lowL (zs.take k))).size + (byt [x]).size := by rw [byt_size, byt_size]; simp; omega
        have HA : Hid (Ok w.heap.size w (wr.alloc (.cells #[.int .u8 x] 5))) := H.out.alloc
        go_wp2_with fail
        go_roundg (len - (k + 1))
        case measure => rw [HG.out]; omega
        case rel => exact ⟨k + 1, by go_num, by rw [HL.out, byt_app], by omega, rfl, HA.out⟩
      · rw [if_neg hx2, List.append_nil] at HL
        have hx3 : decide (x < 128) = false := decide_eq_false hx2
        go_wp2_with fail
        go_roundg (len - (k + 1))
        case measure => rw [HG.out]; omega
        case rel => exact ⟨k + 1, by go_num, by rw [HL.out], by omega, rfl, H.out⟩
    · -- LOOPS
      have e : k = len := by omega
      subst e
      have HOk := hid H.out
      clear H
      have e2 : zs.take k = zs := by rw [← HLn.out]; exact List.take_length
      rw [e2]
      have hlow : (lowL zs).length ≤ k := by
        unfold lowL
        have h1 := List.length_filter_le (fun z : Int => decide (z < 128)) zs
        rw [HLn.out] at h1
        omega
      have hbz := byt_size (lowL zs)
      have HSo0 : Hid ((ES.start zs).out = if (lowL zs).length = 0 then [] else lowL zs ++ [45]) := rfl
      have HST0 : Hid ((ES.start zs).st = (lowL zs).length) := rfl
      have HLw : Hid (byt (lowL zs) = byt (lowL zs)) := rfl
      generalize hl0 : (lowL zs).length = st0 at *
      have HL0 := hid hl0
      clear hl0 e2
      have z0 : ¬ (k : Int) < (k : Int) := by omega
      by_cases h0 : st0 = 0
      · have HO0 : Hid (Value.string (byt (lowL zs)) = Value.string (byt (ES.start zs).out)) := by
          show _ = _
          have hnil : lowL zs = [] := List.eq_nil_of_length_eq_zero (by rw [HL0.out]; exact h0)
          rw [HSo0.out, if_pos h0, hnil]
        clear HSo0
        subst h0
        go_wp2_with fail
        go_loopg [4, 7, 8, 9, 10] (k - 0) (fun gg vs vh vn vd vb wr => ∃ (st : Nat) (n dv bi : Int) (o : List Int), vs = .string (byt o) ∧ vh = .int .i64 st ∧ vn = .int .i64 n ∧ vd = .int .i64 dv ∧ vb = .int .i64 bi ∧ 128 ≤ n ∧ n ≤ 1114112 ∧ st ≤ k ∧ -1000 ≤ dv ∧ dv ≤ 150000000 ∧ gg = k - st ∧ Hid (Ok w.heap.size w wr ∧ ∃ s rest, RI zs s rest (fun p => n ≤ cd zs p) ∧ s.st = st ∧ s.bias = bi ∧ s.n ≤ n ∧ dv = (n - s.n) * ((st : Int) + 1) - s.place ∧ s.out = o))
        case atStart => exact ⟨0, 128, 0, 72, (ES.start zs).out, HO0.out, rfl, rfl, rfl, rfl, by omega, by omega, by omega, by omega, by omega, rfl, HOk.out, ES.start zs, ordL zs, HRI.out, HST0.out, rfl, Int.le_refl _, by show (0 : Int) = (128 - 128) * _ - 0; omega, rfl⟩
        case round =>
          obtain ⟨st, n, dv, bi, o, rfl, rfl, rfl, rfl, rfl, n1, n2, hst, dv1, dv2, hg, H⟩ := hrel
          have HG := hid hg
          clear hg HOk HO0 HRI
          obtain ⟨hOk, s, rest, hRI, hs1, hs2, hs3, hs4, hs5⟩ := H.out
          clear H
          have HOk := hid hOk
          have HRI := hid hRI
          by_cases hlt : st < k
          · have z1 : (st : Int) < (k : Int) := by omega
            have hrl : 0 < rest.length := by have h1 := hRI.cnt; rw [hs1, HLn.out] at h1; omega
            have hex : ∃ p : Nat, p < k ∧ n ≤ cd zs p := by
              cases hr : rest with
              | nil => rw [hr] at hrl; simp at hrl
              | cons x r =>
                obtain ⟨p, _, h1, h2⟩ := (hRI.mem x).1 (by rw [hr]; simp)
                rw [HLn.out] at h1
                exact ⟨p, h1, h2⟩
            have HEx := hid hex
            have HSs := hid (And.intro hs1 (And.intro hs2 (And.intro hs3 (And.intro hs4 hs5))))
            clear hRI hOk hs1 hs2 hs3 hs4 hs5 hrl hex
            go_wp2_with fail
            go_loopg [11, 12] k (fun gg vm vi wr2 => ∃ (i : Nat) (m : Int), vm = .int .i64 m ∧ vi = .int .i64 i ∧ i ≤ k ∧ gg = k - i ∧ wr2 = wr ∧ 0 ≤ m ∧ m ≤ 1114112 ∧ Hid ((∀ j : Nat, j < i → n ≤ cd zs j → m ≤ cd zs j) ∧ (m = 1114112 ∨ ∃ j : Nat, j < i ∧ cd zs j = m ∧ n ≤ m)))
            case atStart => exact ⟨0, 1114112, rfl, rfl, Nat.zero_le _, rfl, rfl, by omega, by omega, fun j h => by omega, .inl rfl⟩
            case round =>
              obtain ⟨i, m, rfl, rfl, hi, hg3, rfl, m0, m1, H3⟩ := hrel
              have HG3 := hid hg3
              clear hg3
              by_cases hil : i < k
              · have hlx : i < zs.length := by rw [HLn.out]; exact hil
                obtain ⟨bb, off, e0, hb, c1⟩ := HS.out.at_ i hlx
                have e0' := Option.some.inj e0
                subst e0'
                have d1 := (HOk.out.1.cell (p := ⟨bb, off + i, none⟩) hb).trans c1
                have hx := HZ.out zs[i] (List.getElem_mem hlx)
                have hcd : Hid (cd zs i = zs[i]) := by show _ = _; unfold cd; rw [List.getD_eq_getElem?_getD, List.getElem?_eq_getElem hlx]; rfl
                have z3 : (i : Int) < (k : Int) := by omega
                clear c1
                generalize zs[i] = x at *
                by_cases hxn : n ≤ x
                · by_cases hxm : x < m
                  · have HN : Hid ((∀ j : Nat, j < i + 1 → n ≤ cd zs j → x ≤ cd zs j) ∧ (x = 1114112 ∨ ∃ j : Nat, j < i + 1 ∧ cd zs j = x ∧ n ≤ x)) := by
                      refine ⟨fun j hj hc => ?_, .inr ⟨i, by omega, hcd.out, hxn⟩⟩
                      by_cases e : j = i
                      · subst e; rw [hcd.out]; omega
                      · have := H3.out.1 j (by omega) hc; omega
                    go_wp2_with fail
                    go_roundg (k - (i + 1))
                    case measure => rw [HG3.out]; omega
                    case rel => exact ⟨i + 1, x, rfl, by go_num, by omega, rfl, rfl, by omega, by omega, HN.out⟩
                  · have HN : Hid ((∀ j : Nat, j < i + 1 → n ≤ cd zs j → m ≤ cd zs j) ∧ (m = 1114112 ∨ ∃ j : Nat, j < i + 1 ∧ cd zs j = m ∧ n ≤ m)) := by
                      refine ⟨fun j hj hc => ?_, H3.out.2.imp id (fun ⟨j, h1, h2⟩ => ⟨j, by omega, h2⟩)⟩
                      by_cases e : j = i
                      · subst e; rw [hcd.out]; omega
                      · exact H3.out.1 j (by omega) hc
                    have hxm2 : decide (x < m) = false := decide_eq_false hxm
                    go_wp2_with fail
                    go_roundg (k - (i + 1))
                    case measure => rw [HG3.out]; omega
                    case rel => exact ⟨i + 1, m, rfl, by go_num, by omega, rfl, rfl, by omega, by omega, HN.out⟩
                · have HN : Hid ((∀ j : Nat, j < i + 1 → n ≤ cd zs j → m ≤ cd zs j) ∧ (m = 1114112 ∨ ∃ j : Nat, j < i + 1 ∧ cd zs j = m ∧ n ≤ m)) := by
                    refine ⟨fun j hj hc => ?_, H3.out.2.imp id (fun ⟨j, h1, h2⟩ => ⟨j, by omega, h2⟩)⟩
                    by_cases e : j = i
                    · subst e; rw [hcd.out] at hc; omega
                    · exact H3.out.1 j (by omega) hc
                  have hxn2 : decide (n ≤ x) = false := decide_eq_false hxn
                  go_wp2_with fail
                  go_roundg (k - (i + 1))
                  case measure => rw [HG3.out]; omega
                  case rel => exact ⟨i + 1, m, rfl, by go_num, by omega, rfl, rfl, by omega, by omega, HN.out⟩
              · have e : i = k := by omega
                subst e
                have hcb : ∀ p : Nat, p < i → cd zs p ≤ 1114111 := fun p hp => by
                  have hp' : p < zs.length := by rw [HLn.out]; exact hp
                  have := HZ.out zs[p] (List.getElem_mem hp')
                  unfold cd
                  rw [List.getD_eq_getElem?_getD, List.getElem?_eq_getElem hp', Option.getD_some]; exact this.2
                obtain ⟨pe, hpe1, hpe2⟩ := HEx.out
                have hmle := H3.out.1 pe hpe1 hpe2
                have hmc := hcb pe hpe1
                obtain ⟨p0, hp0, hcp0, hnm⟩ : ∃ j : Nat, j < i ∧ cd zs j = m ∧ n ≤ m := by
                  rcases H3.out.2 with h | h
                  · omega
                  · exact h
                have hm11 : m ≤ 1114111 := by omega
                have HP : Hid (RI zs s rest (Pm zs m 0)) := by
                  refine HRI.out.congr fun p hp => ?_
                  rw [HLn.out] at hp
                  unfold Pm
                  constructor
                  · intro hc
                    have := H3.out.1 p hp hc
                    rcases Int.lt_or_eq_of_le this with h | h
                    · exact .inl h
                    · exact .inr ⟨h.symm, Nat.zero_le _⟩
                  · rintro (h | h)
                    · show n ≤ cd zs p; omega
                    · show n ≤ cd zs p; omega
                obtain ⟨hs1, hs2, hs3, hs4, hs5⟩ := HSs.out
                have hsn := HRI.out.ok.n0
                have hpl := And.intro HRI.out.ok.p0 HRI.out.ok.p1
                rw [hs1] at hpl
                obtain ⟨M1, hM1⟩ : ∃ M1, (m - n) * ((st : Int) + 1) = M1 := ⟨_, rfl⟩
                have hM2 : dv + M1 = (m - s.n) * ((st : Int) + 1) - s.place := by
                  rw [hs4, ← hM1, show m - s.n = (n - s.n) + (m - n) by omega, Int.add_mul]; omega
                have hM3 : 0 ≤ M1 := by rw [← hM1]; exact Int.mul_nonneg (by omega) (by omega)
                have hM4 : (m - s.n) * ((st : Int) + 1) ≤ 1114000 * 101 := Int.mul_le_mul (by omega) (by omega) (by omega) (by omega)
                have hM5 : 0 ≤ (m - s.n) * ((st : Int) + 1) := Int.mul_nonneg (by omega) (by omega)
                have hM6 : dv + M1 ≤ 115000000 ∧ -1000 ≤ dv + M1 := by omega
                have HD0 := hid hM2
                have H0s : Hid (s.st = st ∧ s.bias = bi ∧ s.out = o ∧ s.n ≤ m) := ⟨hs1, hs2, hs5, by omega⟩
                have HP0 := hid (And.intro hp0 hcp0)
                clear H3 HRI HSs HEx hcb hpe1 hpe2 hmle hs1 hs2 hs3 hs4 hs5 hM2 hM4 hM5 hsn hpl hp0 hcp0
                go_wp2_with fail
                go_loopg [4, 7, 9, 10, 13] i (fun gg vs vh vd vb vi wr3 => ∃ (q st' : Nat) (d' bi' : Int) (o' : List Int), vs = .string (byt o') ∧ vh = .int .i64 st' ∧ vd = .int .i64 d' ∧ vb = .int .i64 bi' ∧ vi = .int .i64 q ∧ q ≤ i ∧ gg = i - q ∧ st' ≤ i ∧ -2000 ≤ d' ∧ d' ≤ 130000000 ∧ wr3 = wr ∧ Hid (st ≤ st' ∧ (p0 < q → st < st') ∧ ∃ s rest, RI zs s rest (Pm zs m q) ∧ s.st = st' ∧ s.bias = bi' ∧ s.out = o' ∧ s.n ≤ m ∧ d' = (m - s.n) * ((st' : Int) + 1) - s.place + ps s.a q))
                case atStart => exact ⟨0, st, dv + M1, bi, o, rfl, rfl, by first | rfl | go_num, rfl, rfl, Nat.zero_le _, rfl, hst, by omega, by omega, rfl, Nat.le_refl _, fun h => by omega, s, rest, HP.out, H0s.out.1, H0s.out.2.1, H0s.out.2.2.1, H0s.out.2.2.2, by rw [HD0.out]; simp [ps]⟩
                case round =>
                  obtain ⟨q, st', d', bi', o', rfl, rfl, rfl, rfl, rfl, hq, hg4, hst2, d1', d2', rfl, H4⟩ := hrel
                  have HG4 := hid hg4
                  clear hg4 HP HD0 H0s
                  obtain ⟨t1, t2, s, rest, hRI, r1, r2, r3, r4, r5⟩ := H4.out
                  clear H4
                  have HRI := hid hRI
                  have HT := hid (And.intro t1 t2)
                  have hok := hRI.ok
                  have hlz : zs.length ≤ 127 := by rw [HLn.out]; omega
                  have hb1 := hok.n0
                  have hb2 := hok.p0
                  have hb3 := hok.p1
                  have hb4 := hok.sum
                  have hb5 := ps_bd s.a hok.bd q
                  have hb6 := ps_mono s.a hok.bd q zs.length (by rw [HLn.out]; omega)
                  rw [hb4, r1] at hb6
                  rw [r1] at hb3 hb4
                  obtain ⟨X, hX⟩ : ∃ X, (m - s.n) * ((st' : Int) + 1) = X := ⟨_, rfl⟩
                  have hX1 : 0 ≤ X := by rw [← hX]; exact Int.mul_nonneg (by omega) (by omega)
                  have hX2 : X ≤ 1114000 * 101 := by rw [← hX]; exact Int.mul_le_mul (by omega) (by omega) (by omega) (by omega)
                  rw [hX] at r5
                  have hd3 : -200 ≤ d' ∧ d' ≤ 120000000 := by omega
                  by_cases hql : q < i
                  · have hlx : q < zs.length := by rw [HLn.out]; exact hql
                    obtain ⟨bb, off, e0, hb, c1⟩ := HS.out.at_ q hlx
                    have e0' := Option.some.inj e0
                    subst e0'
                    have dc := (HOk.out.1.cell (p := ⟨bb, off + q, none⟩) hb).trans c1
                    have hx := HZ.out zs[q] (List.getElem_mem hlx)
                    have hcd : cd zs q = zs[q] := by unfold cd; rw [List.getD_eq_getElem?_getD, List.getElem?_eq_getElem hlx]; rfl
                    have z5 : (q : Int) < (i : Int) := by omega
                    clear c1
                    generalize zs[q] = x at *
                    by_cases hxm : x < m
                    · obtain ⟨g1, g2⟩ := hRI.lt hlx (by rw [hcd]; exact hxm)
                      have HN : Hid (st ≤ st' ∧ (p0 < q + 1 → st < st') ∧ ∃ s rest, RI zs s rest (Pm zs m (q + 1)) ∧ s.st = st' ∧ s.bias = bi' ∧ s.out = o' ∧ s.n ≤ m ∧ d' + 1 = (m - s.n) * ((st' : Int) + 1) - s.place + ps s.a (q + 1)) := by
                        refine ⟨HT.out.1, fun h => HT.out.2 ?_, s, rest, g1, r1, r2, r3, r4, by rw [hX, g2]; omega⟩
                        have hne : p0 ≠ q := fun e => by have := HP0.out.2; rw [e, hcd] at this; omega
                        omega
                      have e5 : (x == m) = false := by simp; omega
                      clear hRI HRI hok hb4 r5 g1 g2 hcd hb5 hb6
                      go_wp2_with fail
                      go_roundg (i - (q + 1))
                      case measure => rw [HG4.out]; omega
                      case rel => exact ⟨q + 1, st', d' + 1, bi', o', rfl, rfl, by go_num, rfl, by go_num, by omega, rfl, hst2, by omega, by omega, rfl, HN.out⟩
                    · by_cases hxe : x = m
                      · obtain ⟨rest', hr, g1, g2⟩ := hRI.eq hlz hlx (by rw [hcd]; exact hxe)
                        rw [hr] at hok
                        have hhd := hok.head hlz
                        have hde : d' = s.d zs (q : Int) := by
                          unfold ES.d
                          rw [ky_cd, hcd, hxe, r1, hX, Int.toNat_natCast]; omega
                        have hd0 := hhd.1
                        rw [← hde] at hd0
                        have hbb := And.intro hok.b0 hok.b1
                        rw [r2] at hbb
                        have hfs := hRI.fst
                        rw [HL0.out, r1] at hfs
                        have HWd := hid (fun W => HWr.out d' bi' W hd0 (by omega) (by omega))
                        have HAa : Hid (∀ W, Calls Try.prog 20 #[.int .i64 d', .int .i64 ((st' : Int) + 1), .bool ((st' : Int) == (0 : Int))] W fun e w' => e = .returned (.int .i64 (adP d'.toNat (st' + 1) (s.i == 0) : Nat)) ∧ w' = W) := by
                          refine hid (fun W => ?_)
                          have h1 := HAd.out d' ((st' : Int) + 1) ((st' : Int) == (0 : Int)) W (by omega) (by omega)
                          rw [if_neg (by omega), show ((st' : Int) + 1).toNat = st' + 1 by omega] at h1
                          have e6 : ((st' : Int) == (0 : Int)) = (s.i == 0) := by
                            rw [Bool.eq_iff_iff, beq_iff_eq, beq_iff_eq]
                            omega
                          rw [e6] at h1
                          rw [e6]
                          exact h1
                        have hol := hRI.len
                        rw [r1, r3] at hol
                        have hwl : (wrP d' bi').length ≤ 11 := wr_short 10 _ d' 36 bi' hd0 (by omega)
                        have hsz : ¬ 9223372036854775807 < (byt o').size + (byt (wrP d' bi')).size := by rw [byt_size, byt_size]; omega
                        have HN : Hid (st ≤ st' + 1 ∧ (p0 < q + 1 → st < st' + 1) ∧ ∃ s2 rest, RI zs s2 rest (Pm zs m (q + 1)) ∧ s2.st = st' + 1 ∧ s2.bias = (adP d'.toNat (st' + 1) (s.i == 0) : Nat) ∧ s2.out = o' ++ wrP d' bi' ∧ s2.n ≤ m ∧ (0 : Int) = (m - s2.n) * (((st' + 1 : Nat) : Int) + 1) - s2.place + ps s2.a (q + 1)) := by
                          have hkm : kyP zs (q : Int) = m := by rw [ky_cd, hcd, hxe]
                          refine ⟨by have := HT.out.1; omega, fun _ => by have := HT.out.1; omega, s.step zs q, rest', g1, ?_, ?_, ?_, ?_, ?_⟩
                          · show s.st + 1 = _; rw [r1]
                          · show ((adP (s.d zs q).toNat (s.st + 1) (s.i == 0) : Nat) : Int) = _; rw [← hde, r1]
                          · show s.out ++ wrP (s.d zs q) s.bias = _; rw [← hde, r2, r3]
                          · show kyP zs q ≤ m; rw [hkm]; exact Int.le_refl _
                          · rw [g2]
                            show (0 : Int) = (m - kyP zs q) * _ - (ps s.a (q : Int).toNat + 1) + _
                            rw [hkm, Int.sub_self, Int.zero_mul, Int.toNat_natCast]; omega
                        subst hxe
                        have hxm2 : ¬ x < x := by omega
                        have hst3 : st' + 1 ≤ i := by
                          have h1 := hRI.cnt
                          rw [hr, List.length_cons, r1, HLn.out] at h1
                          omega
                        have hstz : (st' : Int) + 1 ≤ 1000 := by omega
                        clear hRI HRI hok hb4 r5 g1 g2 hcd hb5 hb6 hr hhd hde hfs hol hxm
                        generalize adP d'.toNat (st' + 1) (s.i == 0) = nb at *
                        go_wp2_with fail
                        refine (HWd.out _).mono ?_
                        rintro e w1 ⟨rfl, rfl⟩
                        go_wp2_with fail
                        refine (HAa.out _).mono ?_
                        rintro e w1 ⟨rfl, rfl⟩
                        go_wp2_with fail
                        go_roundg (i - (q + 1))
                        case measure => rw [HG4.out]; omega
                        case rel => exact ⟨q + 1, st' + 1, 0, nb, o' ++ wrP d' bi', by rw [byt_app], by go_num, rfl, rfl, by go_num, by omega, rfl, hst3, by omega, by omega, rfl, HN.out⟩
                      · obtain ⟨g1, g2⟩ := hRI.gt hlx (by rw [hcd]; omega)
                        have HN : Hid (st ≤ st' ∧ (p0 < q + 1 → st < st') ∧ ∃ s rest, RI zs s rest (Pm zs m (q + 1)) ∧ s.st = st' ∧ s.bias = bi' ∧ s.out = o' ∧ s.n ≤ m ∧ d' = (m - s.n) * ((st' : Int) + 1) - s.place + ps s.a (q + 1)) := by
                          refine ⟨HT.out.1, fun h => HT.out.2 ?_, s, rest, g1, r1, r2, r3, r4, by rw [hX, g2]; omega⟩
                          have hne : p0 ≠ q := fun e => by have := HP0.out.2; rw [e, hcd] at this; omega
                          omega
                        have e5 : (x == m) = false := by simpa using hxe
                        have e6 : decide (x < m) = false := decide_eq_false hxm
                        clear hRI HRI hok hb4 r5 g1 g2 hcd hb5 hb6
                        go_wp2_with fail
                        go_roundg (i - (q + 1))
                        case measure => rw [HG4.out]; omega
                        case rel => exact ⟨q + 1, st', d', bi', o', rfl, rfl, rfl, rfl, by go_num, by omega, rfl, hst2, by omega, by omega, rfl, HN.out⟩
                  · have e : q = i := by omega
                    subst e
                    have HN : Hid (Ok w.heap.size w wr ∧ ∃ s rest, RI zs s rest (fun p => m + 1 ≤ cd zs p) ∧ s.st = st' ∧ s.bias = bi' ∧ s.n ≤ m + 1 ∧ d' + 1 = (m + 1 - s.n) * ((st' : Int) + 1) - s.place ∧ s.out = o') := by
                      refine ⟨HOk.out, s, rest, hRI.congr fun p hp => ?_, r1, r2, by omega, ?_, r3⟩
                      · rw [HLn.out] at hp
                        unfold Pm
                        constructor
                        · rintro (h | h)
                          · show m + 1 ≤ cd zs p; omega
                          · omega
                        · intro h
                          have h' : m + 1 ≤ cd zs p := h
                          exact .inl (by omega)
                      · have e7 : (m + 1 - s.n) * ((st' : Int) + 1) = (m - s.n) * ((st' : Int) + 1) + ((st' : Int) + 1) := by
                          rw [show m + 1 - s.n = (m - s.n) + 1 by omega, Int.add_mul, Int.one_mul]
                        rw [HLn.out] at hb4
                        rw [e7, hX]; omega
                    have hgt : st < st' := HT.out.2 HP0.out.1
                    have z6 : ¬ (q : Int) < (q : Int) := by omega
                    clear hRI HRI hok hb4 r5 hb5 hb6
                    go_wp2_with fail
                    go_roundg (q - st')
                    case measure => rw [HG.out]; omega
                    case rel => exact ⟨st', m + 1, d' + 1, bi', o', rfl, rfl, by go_num, by go_num, rfl, by omega, by omega, by omega, by omega, by omega, rfl, HN.out⟩
          · have e : st = k := by omega
            subst e
            have HE : Hid (encP zs = o) := by
              show _ = _
              have h1 := hRI.cnt
              rw [hs1, HLn.out] at h1
              have hnil : rest = [] := List.eq_nil_of_length_eq_zero (by omega)
              have h2 := hRI.fin
              rw [hnil] at h2
              rw [← h2, ← hs5]; rfl
            have z7 : ¬ (st : Int) < (st : Int) := by omega
            clear hRI HRI hs1 hs2 hs3 hs4 hs5
            go_wp2_with fail
            go_ret2
            exact ⟨by rw [HE.out]; rfl, HOk.out.1⟩
      · have HO0 : Hid (Value.string (byt (lowL zs) ++ byt [45]) = Value.string (byt (ES.start zs).out)) := by
          show _ = _
          rw [HSo0.out, if_neg h0, byt_app]
        have hl1 : byt [45] = ({ data := #[45] } : ByteArray) := rfl
        rw [hl1] at HO0
        have hsz : ¬ 9223372036854775807 < (byt (lowL zs)).size + ({ data := #[45] } : ByteArray).size := by
          rw [hbz]
          show ¬ 9223372036854775807 < st0 + 1
          omega
        have z9 : (0 : Int) < (st0 : Int) := by omega
        clear HSo0
        go_wp2_with fail
        go_loopg [4, 7, 8, 9, 10] (k - st0) (fun gg vs vh vn vd vb wr => ∃ (st : Nat) (n dv bi : Int) (o : List Int), vs = .string (byt o) ∧ vh = .int .i64 st ∧ vn = .int .i64 n ∧ vd = .int .i64 dv ∧ vb = .int .i64 bi ∧ 128 ≤ n ∧ n ≤ 1114112 ∧ st ≤ k ∧ -1000 ≤ dv ∧ dv ≤ 150000000 ∧ gg = k - st ∧ Hid (Ok w.heap.size w wr ∧ ∃ s rest, RI zs s rest (fun p => n ≤ cd zs p) ∧ s.st = st ∧ s.bias = bi ∧ s.n ≤ n ∧ dv = (n - s.n) * ((st : Int) + 1) - s.place ∧ s.out = o))
        case atStart => exact ⟨st0, 128, 0, 72, (ES.start zs).out, HO0.out, rfl, rfl, rfl, rfl, by omega, by omega, by omega, by omega, by omega, rfl, HOk.out, ES.start zs, ordL zs, HRI.out, HST0.out, rfl, Int.le_refl _, by show (0 : Int) = (128 - 128) * _ - 0; omega, rfl⟩
        case round =>
          obtain ⟨st, n, dv, bi, o, rfl, rfl, rfl, rfl, rfl, n1, n2, hst, dv1, dv2, hg, H⟩ := hrel
          have HG := hid hg
          clear hg HOk HO0 HRI
          obtain ⟨hOk, s, rest, hRI, hs1, hs2, hs3, hs4, hs5⟩ := H.out
          clear H
          have HOk := hid hOk
          have HRI := hid hRI
          by_cases hlt : st < k
          · have z1 : (st : Int) < (k : Int) := by omega
            have hrl : 0 < rest.length := by have h1 := hRI.cnt; rw [hs1, HLn.out] at h1; omega
            have hex : ∃ p : Nat, p < k ∧ n ≤ cd zs p := by
              cases hr : rest with
              | nil => rw [hr] at hrl; simp at hrl
              | cons x r =>
                obtain ⟨p, _, h1, h2⟩ := (hRI.mem x).1 (by rw [hr]; simp)
                rw [HLn.out] at h1
                exact ⟨p, h1, h2⟩
            have HEx := hid hex
            have HSs := hid (And.intro hs1 (And.intro hs2 (And.intro hs3 (And.intro hs4 hs5))))
            clear hRI hOk hs1 hs2 hs3 hs4 hs5 hrl hex
            go_wp2_with fail
            go_loopg [11, 12] k (fun gg vm vi wr2 => ∃ (i : Nat) (m : Int), vm = .int .i64 m ∧ vi = .int .i64 i ∧ i ≤ k ∧ gg = k - i ∧ wr2 = wr ∧ 0 ≤ m ∧ m ≤ 1114112 ∧ Hid ((∀ j : Nat, j < i → n ≤ cd zs j → m ≤ cd zs j) ∧ (m = 1114112 ∨ ∃ j : Nat, j < i ∧ cd zs j = m ∧ n ≤ m)))
            case atStart => exact ⟨0, 1114112, rfl, rfl, Nat.zero_le _, rfl, rfl, by omega, by omega, fun j h => by omega, .inl rfl⟩
            case round =>
              obtain ⟨i, m, rfl, rfl, hi, hg3, rfl, m0, m1, H3⟩ := hrel
              have HG3 := hid hg3
              clear hg3
              by_cases hil : i < k
              · have hlx : i < zs.length := by rw [HLn.out]; exact hil
                obtain ⟨bb, off, e0, hb, c1⟩ := HS.out.at_ i hlx
                have e0' := Option.some.inj e0
                subst e0'
                have d1 := (HOk.out.1.cell (p := ⟨bb, off + i, none⟩) hb).trans c1
                have hx := HZ.out zs[i] (List.getElem_mem hlx)
                have hcd : Hid (cd zs i = zs[i]) := by show _ = _; unfold cd; rw [List.getD_eq_getElem?_getD, List.getElem?_eq_getElem hlx]; rfl
                have z3 : (i : Int) < (k : Int) := by omega
                clear c1
                generalize zs[i] = x at *
                by_cases hxn : n ≤ x
                · by_cases hxm : x < m
                  · have HN : Hid ((∀ j : Nat, j < i + 1 → n ≤ cd zs j → x ≤ cd zs j) ∧ (x = 1114112 ∨ ∃ j : Nat, j < i + 1 ∧ cd zs j = x ∧ n ≤ x)) := by
                      refine ⟨fun j hj hc => ?_, .inr ⟨i, by omega, hcd.out, hxn⟩⟩
                      by_cases e : j = i
                      · subst e; rw [hcd.out]; omega
                      · have := H3.out.1 j (by omega) hc; omega
                    go_wp2_with fail
                    go_roundg (k - (i + 1))
                    case measure => rw [HG3.out]; omega
                    case rel => exact ⟨i + 1, x, rfl, by go_num, by omega, rfl, rfl, by omega, by omega, HN.out⟩
                  · have HN : Hid ((∀ j : Nat, j < i + 1 → n ≤ cd zs j → m ≤ cd zs j) ∧ (m = 1114112 ∨ ∃ j : Nat, j < i + 1 ∧ cd zs j = m ∧ n ≤ m)) := by
                      refine ⟨fun j hj hc => ?_, H3.out.2.imp id (fun ⟨j, h1, h2⟩ => ⟨j, by omega, h2⟩)⟩
                      by_cases e : j = i
                      · subst e; rw [hcd.out]; omega
                      · exact H3.out.1 j (by omega) hc
                    have hxm2 : decide (x < m) = false := decide_eq_false hxm
                    go_wp2_with fail
                    go_roundg (k - (i + 1))
                    case measure => rw [HG3.out]; omega
                    case rel => exact ⟨i + 1, m, rfl, by go_num, by omega, rfl, rfl, by omega, by omega, HN.out⟩
                · have HN : Hid ((∀ j : Nat, j < i + 1 → n ≤ cd zs j → m ≤ cd zs j) ∧ (m = 1114112 ∨ ∃ j : Nat, j < i + 1 ∧ cd zs j = m ∧ n ≤ m)) := by
                    refine ⟨fun j hj hc => ?_, H3.out.2.imp id (fun ⟨j, h1, h2⟩ => ⟨j, by omega, h2⟩)⟩
                    by_cases e : j = i
                    · subst e; rw [hcd.out] at hc; omega
                    · exact H3.out.1 j (by omega) hc
                  have hxn2 : decide (n ≤ x) = false := decide_eq_false hxn
                  go_wp2_with fail
                  go_roundg (k - (i + 1))
                  case measure => rw [HG3.out]; omega
                  case rel => exact ⟨i + 1, m, rfl, by go_num, by omega, rfl, rfl, by omega, by omega, HN.out⟩
              · have e : i = k := by omega
                subst e
                have hcb : ∀ p : Nat, p < i → cd zs p ≤ 1114111 := fun p hp => by
                  have hp' : p < zs.length := by rw [HLn.out]; exact hp
                  have := HZ.out zs[p] (List.getElem_mem hp')
                  unfold cd
                  rw [List.getD_eq_getElem?_getD, List.getElem?_eq_getElem hp', Option.getD_some]; exact this.2
                obtain ⟨pe, hpe1, hpe2⟩ := HEx.out
                have hmle := H3.out.1 pe hpe1 hpe2
                have hmc := hcb pe hpe1
                obtain ⟨p0, hp0, hcp0, hnm⟩ : ∃ j : Nat, j < i ∧ cd zs j = m ∧ n ≤ m := by
                  rcases H3.out.2 with h | h
                  · omega
                  · exact h
                have hm11 : m ≤ 1114111 := by omega
                have HP : Hid (RI zs s rest (Pm zs m 0)) := by
                  refine HRI.out.congr fun p hp => ?_
                  rw [HLn.out] at hp
                  unfold Pm
                  constructor
                  · intro hc
                    have := H3.out.1 p hp hc
                    rcases Int.lt_or_eq_of_le this with h | h
                    · exact .inl h
                    · exact .inr ⟨h.symm, Nat.zero_le _⟩
                  · rintro (h | h)
                    · show n ≤ cd zs p; omega
                    · show n ≤ cd zs p; omega
                obtain ⟨hs1, hs2, hs3, hs4, hs5⟩ := HSs.out
                have hsn := HRI.out.ok.n0
                have hpl := And.intro HRI.out.ok.p0 HRI.out.ok.p1
                rw [hs1] at hpl
                obtain ⟨M1, hM1⟩ : ∃ M1, (m - n) * ((st : Int) + 1) = M1 := ⟨_, rfl⟩
                have hM2 : dv + M1 = (m - s.n) * ((st : Int) + 1) - s.place := by
                  rw [hs4, ← hM1, show m - s.n = (n - s.n) + (m - n) by omega, Int.add_mul]; omega
                have hM3 : 0 ≤ M1 := by rw [← hM1]; exact Int.mul_nonneg (by omega) (by omega)
                have hM4 : (m - s.n) * ((st : Int) + 1) ≤ 1114000 * 101 := Int.mul_le_mul (by omega) (by omega) (by omega) (by omega)
                have hM5 : 0 ≤ (m - s.n) * ((st : Int) + 1) := Int.mul_nonneg (by omega) (by omega)
                have hM6 : dv + M1 ≤ 115000000 ∧ -1000 ≤ dv + M1 := by omega
                have HD0 := hid hM2
                have H0s : Hid (s.st = st ∧ s.bias = bi ∧ s.out = o ∧ s.n ≤ m) := ⟨hs1, hs2, hs5, by omega⟩
                have HP0 := hid (And.intro hp0 hcp0)
                clear H3 HRI HSs HEx hcb hpe1 hpe2 hmle hs1 hs2 hs3 hs4 hs5 hM2 hM4 hM5 hsn hpl hp0 hcp0
                go_wp2_with fail
                go_loopg [4, 7, 9, 10, 13] i (fun gg vs vh vd vb vi wr3 => ∃ (q st' : Nat) (d' bi' : Int) (o' : List Int), vs = .string (byt o') ∧ vh = .int .i64 st' ∧ vd = .int .i64 d' ∧ vb = .int .i64 bi' ∧ vi = .int .i64 q ∧ q ≤ i ∧ gg = i - q ∧ st' ≤ i ∧ -2000 ≤ d' ∧ d' ≤ 130000000 ∧ wr3 = wr ∧ Hid (st ≤ st' ∧ (p0 < q → st < st') ∧ ∃ s rest, RI zs s rest (Pm zs m q) ∧ s.st = st' ∧ s.bias = bi' ∧ s.out = o' ∧ s.n ≤ m ∧ d' = (m - s.n) * ((st' : Int) + 1) - s.place + ps s.a q))
                case atStart => exact ⟨0, st, dv + M1, bi, o, rfl, rfl, by first | rfl | go_num, rfl, rfl, Nat.zero_le _, rfl, hst, by omega, by omega, rfl, Nat.le_refl _, fun h => by omega, s, rest, HP.out, H0s.out.1, H0s.out.2.1, H0s.out.2.2.1, H0s.out.2.2.2, by rw [HD0.out]; simp [ps]⟩
                case round =>
                  obtain ⟨q, st', d', bi', o', rfl, rfl, rfl, rfl, rfl, hq, hg4, hst2, d1', d2', rfl, H4⟩ := hrel
                  have HG4 := hid hg4
                  clear hg4 HP HD0 H0s
                  obtain ⟨t1, t2, s, rest, hRI, r1, r2, r3, r4, r5⟩ := H4.out
                  clear H4
                  have HRI := hid hRI
                  have HT := hid (And.intro t1 t2)
                  have hok := hRI.ok
                  have hlz : zs.length ≤ 127 := by rw [HLn.out]; omega
                  have hb1 := hok.n0
                  have hb2 := hok.p0
                  have hb3 := hok.p1
                  have hb4 := hok.sum
                  have hb5 := ps_bd s.a hok.bd q
                  have hb6 := ps_mono s.a hok.bd q zs.length (by rw [HLn.out]; omega)
                  rw [hb4, r1] at hb6
                  rw [r1] at hb3 hb4
                  obtain ⟨X, hX⟩ : ∃ X, (m - s.n) * ((st' : Int) + 1) = X := ⟨_, rfl⟩
                  have hX1 : 0 ≤ X := by rw [← hX]; exact Int.mul_nonneg (by omega) (by omega)
                  have hX2 : X ≤ 1114000 * 101 := by rw [← hX]; exact Int.mul_le_mul (by omega) (by omega) (by omega) (by omega)
                  rw [hX] at r5
                  have hd3 : -200 ≤ d' ∧ d' ≤ 120000000 := by omega
                  by_cases hql : q < i
                  · have hlx : q < zs.length := by rw [HLn.out]; exact hql
                    obtain ⟨bb, off, e0, hb, c1⟩ := HS.out.at_ q hlx
                    have e0' := Option.some.inj e0
                    subst e0'
                    have dc := (HOk.out.1.cell (p := ⟨bb, off + q, none⟩) hb).trans c1
                    have hx := HZ.out zs[q] (List.getElem_mem hlx)
                    have hcd : cd zs q = zs[q] := by unfold cd; rw [List.getD_eq_getElem?_getD, List.getElem?_eq_getElem hlx]; rfl
                    have z5 : (q : Int) < (i : Int) := by omega
                    clear c1
                    generalize zs[q] = x at *
                    by_cases hxm : x < m
                    · obtain ⟨g1, g2⟩ := hRI.lt hlx (by rw [hcd]; exact hxm)
                      have HN : Hid (st ≤ st' ∧ (p0 < q + 1 → st < st') ∧ ∃ s rest, RI zs s rest (Pm zs m (q + 1)) ∧ s.st = st' ∧ s.bias = bi' ∧ s.out = o' ∧ s.n ≤ m ∧ d' + 1 = (m - s.n) * ((st' : Int) + 1) - s.place + ps s.a (q + 1)) := by
                        refine ⟨HT.out.1, fun h => HT.out.2 ?_, s, rest, g1, r1, r2, r3, r4, by rw [hX, g2]; omega⟩
                        have hne : p0 ≠ q := fun e => by have := HP0.out.2; rw [e, hcd] at this; omega
                        omega
                      have e5 : (x == m) = false := by simp; omega
                      clear hRI HRI hok hb4 r5 g1 g2 hcd hb5 hb6
                      go_wp2_with fail
                      go_roundg (i - (q + 1))
                      case measure => rw [HG4.out]; omega
                      case rel => exact ⟨q + 1, st', d' + 1, bi', o', rfl, rfl, by go_num, rfl, by go_num, by omega, rfl, hst2, by omega, by omega, rfl, HN.out⟩
                    · by_cases hxe : x = m
                      · obtain ⟨rest', hr, g1, g2⟩ := hRI.eq hlz hlx (by rw [hcd]; exact hxe)
                        rw [hr] at hok
                        have hhd := hok.head hlz
                        have hde : d' = s.d zs (q : Int) := by
                          unfold ES.d
                          rw [ky_cd, hcd, hxe, r1, hX, Int.toNat_natCast]; omega
                        have hd0 := hhd.1
                        rw [← hde] at hd0
                        have hbb := And.intro hok.b0 hok.b1
                        rw [r2] at hbb
                        have hfs := hRI.fst
                        rw [HL0.out, r1] at hfs
                        have HWd := hid (fun W => HWr.out d' bi' W hd0 (by omega) (by omega))
                        have HAa : Hid (∀ W, Calls Try.prog 20 #[.int .i64 d', .int .i64 ((st' : Int) + 1), .bool ((st' : Int) == (st0 : Int))] W fun e w' => e = .returned (.int .i64 (adP d'.toNat (st' + 1) (s.i == 0) : Nat)) ∧ w' = W) := by
                          refine hid (fun W => ?_)
                          have h1 := HAd.out d' ((st' : Int) + 1) ((st' : Int) == (st0 : Int)) W (by omega) (by omega)
                          rw [if_neg (by omega), show ((st' : Int) + 1).toNat = st' + 1 by omega] at h1
                          have e6 : ((st' : Int) == (st0 : Int)) = (s.i == 0) := by
                            rw [Bool.eq_iff_iff, beq_iff_eq, beq_iff_eq]
                            omega
                          rw [e6] at h1
                          rw [e6]
                          exact h1
                        have hol := hRI.len
                        rw [r1, r3] at hol
                        have hwl : (wrP d' bi').length ≤ 11 := wr_short 10 _ d' 36 bi' hd0 (by omega)
                        have hsz : ¬ 9223372036854775807 < (byt o').size + (byt (wrP d' bi')).size := by rw [byt_size, byt_size]; omega
                        have HN : Hid (st ≤ st' + 1 ∧ (p0 < q + 1 → st < st' + 1) ∧ ∃ s2 rest, RI zs s2 rest (Pm zs m (q + 1)) ∧ s2.st = st' + 1 ∧ s2.bias = (adP d'.toNat (st' + 1) (s.i == 0) : Nat) ∧ s2.out = o' ++ wrP d' bi' ∧ s2.n ≤ m ∧ (0 : Int) = (m - s2.n) * (((st' + 1 : Nat) : Int) + 1) - s2.place + ps s2.a (q + 1)) := by
                          have hkm : kyP zs (q : Int) = m := by rw [ky_cd, hcd, hxe]
                          refine ⟨by have := HT.out.1; omega, fun _ => by have := HT.out.1; omega, s.step zs q, rest', g1, ?_, ?_, ?_, ?_, ?_⟩
                          · show s.st + 1 = _; rw [r1]
                          · show ((adP (s.d zs q).toNat (s.st + 1) (s.i == 0) : Nat) : Int) = _; rw [← hde, r1]
                          · show s.out ++ wrP (s.d zs q) s.bias = _; rw [← hde, r2, r3]
                          · show kyP zs q ≤ m; rw [hkm]; exact Int.le_refl _
                          · rw [g2]
                            show (0 : Int) = (m - kyP zs q) * _ - (ps s.a (q : Int).toNat + 1) + _
                            rw [hkm, Int.sub_self, Int.zero_mul, Int.toNat_natCast]; omega
                        subst hxe
                        have hxm2 : ¬ x < x := by omega
                        have hst3 : st' + 1 ≤ i := by
                          have h1 := hRI.cnt
                          rw [hr, List.length_cons, r1, HLn.out] at h1
                          omega
                        have hstz : (st' : Int) + 1 ≤ 1000 := by omega
                        clear hRI HRI hok hb4 r5 g1 g2 hcd hb5 hb6 hr hhd hde hfs hol hxm
                        generalize adP d'.toNat (st' + 1) (s.i == 0) = nb at *
                        go_wp2_with fail
                        refine (HWd.out _).mono ?_
                        rintro e w1 ⟨rfl, rfl⟩
                        go_wp2_with fail
                        refine (HAa.out _).mono ?_
                        rintro e w1 ⟨rfl, rfl⟩
                        go_wp2_with fail
                        go_roundg (i - (q + 1))
                        case measure => rw [HG4.out]; omega
                        case rel => exact ⟨q + 1, st' + 1, 0, nb, o' ++ wrP d' bi', by rw [byt_app], by go_num, rfl, rfl, by go_num, by omega, rfl, hst3, by omega, by omega, rfl, HN.out⟩
                      · obtain ⟨g1, g2⟩ := hRI.gt hlx (by rw [hcd]; omega)
                        have HN : Hid (st ≤ st' ∧ (p0 < q + 1 → st < st') ∧ ∃ s rest, RI zs s rest (Pm zs m (q + 1)) ∧ s.st = st' ∧ s.bias = bi' ∧ s.out = o' ∧ s.n ≤ m ∧ d' = (m - s.n) * ((st' : Int) + 1) - s.place + ps s.a (q + 1)) := by
                          refine ⟨HT.out.1, fun h => HT.out.2 ?_, s, rest, g1, r1, r2, r3, r4, by rw [hX, g2]; omega⟩
                          have hne : p0 ≠ q := fun e => by have := HP0.out.2; rw [e, hcd] at this; omega
                          omega
                        have e5 : (x == m) = false := by simpa using hxe
                        have e6 : decide (x < m) = false := decide_eq_false hxm
                        clear hRI HRI hok hb4 r5 g1 g2 hcd hb5 hb6
                        go_wp2_with fail
                        go_roundg (i - (q + 1))
                        case measure => rw [HG4.out]; omega
                        case rel => exact ⟨q + 1, st', d', bi', o', rfl, rfl, rfl, rfl, by go_num, by omega, rfl, hst2, by omega, by omega, rfl, HN.out⟩
                  · have e : q = i := by omega
                    subst e
                    have HN : Hid (Ok w.heap.size w wr ∧ ∃ s rest, RI zs s rest (fun p => m + 1 ≤ cd zs p) ∧ s.st = st' ∧ s.bias = bi' ∧ s.n ≤ m + 1 ∧ d' + 1 = (m + 1 - s.n) * ((st' : Int) + 1) - s.place ∧ s.out = o') := by
                      refine ⟨HOk.out, s, rest, hRI.congr fun p hp => ?_, r1, r2, by omega, ?_, r3⟩
                      · rw [HLn.out] at hp
                        unfold Pm
                        constructor
                        · rintro (h | h)
                          · show m + 1 ≤ cd zs p; omega
                          · omega
                        · intro h
                          have h' : m + 1 ≤ cd zs p := h
                          exact .inl (by omega)
                      · have e7 : (m + 1 - s.n) * ((st' : Int) + 1) = (m - s.n) * ((st' : Int) + 1) + ((st' : Int) + 1) := by
                          rw [show m + 1 - s.n = (m - s.n) + 1 by omega, Int.add_mul, Int.one_mul]
                        rw [HLn.out] at hb4
                        rw [e7, hX]; omega
                    have hgt : st < st' := HT.out.2 HP0.out.1
                    have z6 : ¬ (q : Int) < (q : Int) := by omega
                    clear hRI HRI hok hb4 r5 hb5 hb6
                    go_wp2_with fail
                    go_roundg (q - st')
                    case measure => rw [HG.out]; omega
                    case rel => exact ⟨st', m + 1, d' + 1, bi', o', rfl, rfl, by go_num, by go_num, rfl, by omega, by omega, by omega, by omega, by omega, rfl, HN.out⟩
          · have e : st = k := by omega
            subst e
            have HE : Hid (encP zs = o) := by
              show _ = _
              have h1 := hRI.cnt
              rw [hs1, HLn.out] at h1
              have hnil : rest = [] := List.eq_nil_of_length_eq_zero (by omega)
              have h2 := hRI.fin
              rw [hnil] at h2
              rw [← h2, ← hs5]; rfl
            have z7 : ¬ (st : Int) < (st : Int) := by omega
            clear hRI HRI hs1 hs2 hs3 hs4 hs5
            go_wp2_with fail
            go_ret2
            exact ⟨by rw [HE.out]; rfl, HOk.out.1⟩
end Pu
end Go.Proofs.Ytoknfhjclpdihaa
