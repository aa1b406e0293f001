import Derived.Test.YtoknfhjclpdihaaPu10
import Derived.WalkMore
namespace Go.Proofs.Ytoknfhjclpdihaa
namespace Pu
open Go.RowKit Od

abbrev Ent := Int × Int
def ec (x : Ent) : List Value := [.int .i32 x.1, .int .i64 x.2]
theorem ec_len (l : List Ent) : (l.flatMap ec).length = l.length * 2 := by
  induction l with
  | nil => rfl
  | cons x l ih => simp only [List.flatMap_cons, List.length_append, ih, List.length_cons, ec, List.length_nil]; omega
theorem Try.info_ent : (Try.prog.info? 68).map (fun i => (i.zero, i.size, i.bytes)) = some (some (.agg #[.int .i32 0, .int .i64 0]), 2, 16) := by kernel_rfl
/-- append(s, x) of one entry, s of the call's own. -/
theorem app_ent {ops : Array Oper} {rest : List Oper} {o : Oper} {a : Act} {Q : Exit → Act → World → Prop} (hgd : o.guard = none) (s x : Operand)
    (ho : o.op = .call { callee := .builtin .append, args := #[s, x], argTypes := #[56, 56] }) (W : World) (B n : Nat) (v : Value) (xs : List Value) (r : Ent) (hs : a.eval s = v) (N : Nat) (hN : W.heap.size = N) (hx : a.eval x = .slice (some ⟨N, 0, none⟩) 1 1)
    (hown : W.ownsRow B 68 2 v n xs) (hn : n ≤ 1000000000) (hB : B ≤ W.heap.size)
    (h : ∀ v' w', w'.ownsRow B 68 2 v' (n + 1) (xs ++ ec r) → Below B W w' → wpList Try.prog ops Q rest (a.put o.dst v') w') :
    wpList Try.prog ops Q (o :: rest) a (W.alloc (.cells #[.int .i32 r.1, .int .i64 r.2] 68)) := by
  subst hN
  obtain ⟨i0, hi, hz0, hz1, hz2⟩ := info_parts Pu.Try.info_ent
  refine wpList_append_own_at _ hgd s x 56 ho B 68 i0 (.agg #[.int .i32 0, .int .i64 0]) 2 16 Try.underlying56 hi hz0 hz1 hz2 rfl (by decide) v n xs hs (hown.alloc _) ⟨W.heap.size, 0, none⟩ 1 1 (ec r) hx rfl
    (World.news_of_block (heap_new W _)) (fun u hu => by simp [ec] at hu; rcases hu with rfl | rfl <;> rfl) (by unfold maxLen; omega) (by omega) (by simp; omega) (fun v' w' h1 h2 _ _ => h v' w' h1 ?_)
  exact ((Below.refl _ _).alloc hB _).trans (below_of_grown h2 B (by simp; omega) (fun k e => (hown.lt k e).1))

/-- A delta is read: the place behind it, and what is left; an error's number. -/
def rdD (bi : Int) : List Int → Int → Int → Int → Sum Int (Int × List Int)
  | [], _, _, _ => .inl 9
  | b :: l, pl, c, k =>
    if vlP b < 0 then .inl 9
    else if (2147483647 - pl) / c < vlP b then .inl 11
    else if vlP b < thP k bi then .inr (pl + vlP b * c, l)
    else if 2147483647 / (36 - thP k bi) < c then .inl 11
    else rdD bi l (pl + vlP b * c) (c * (36 - thP k bi)) (k + 36)
structure DS where
  n : Int
  place : Int
  bias : Int
  st : Nat
  out : List Ent
def rdS : Nat → DS → List Int → Sum Int (List Ent)
  | 0, s, _ => .inr s.out
  | _ + 1, s, [] => .inr s.out
  | f + 1, s, b :: l => match rdD s.bias (b :: l) s.place 1 36 with
    | .inl e => .inl e
    | .inr (p2, rest) =>
      if 2147483647 - s.n < p2 / ((s.st : Int) + 1) then .inl 11
      else if 1114111 < s.n + p2 / ((s.st : Int) + 1) then .inl 7
      else rdS f { n := s.n + p2 / ((s.st : Int) + 1), place := p2 % ((s.st : Int) + 1) + 1, bias := (adP (p2 - s.place).toNat (s.st + 1) (s.out.length == 0) : Nat), st := s.st + 1, out := s.out ++ [(s.n + p2 / ((s.st : Int) + 1), p2 % ((s.st : Int) + 1))] } rest
theorem rdS_step (f : Nat) (s : DS) (L : List Int) (hL : L ≠ []) : rdS (f + 1) s L = match rdD s.bias L s.place 1 36 with
    | .inl e => .inl e
    | .inr (p2, rest) =>
      if 2147483647 - s.n < p2 / ((s.st : Int) + 1) then .inl 11
      else if 1114111 < s.n + p2 / ((s.st : Int) + 1) then .inl 7
      else rdS f { n := s.n + p2 / ((s.st : Int) + 1), place := p2 % ((s.st : Int) + 1) + 1, bias := (adP (p2 - s.place).toNat (s.st + 1) (s.out.length == 0) : Nat), st := s.st + 1, out := s.out ++ [(s.n + p2 / ((s.st : Int) + 1), p2 % ((s.st : Int) + 1))] } rest := by
  cases L with
  | nil => exact absurd rfl hL
  | cons b l => rfl
theorem rdD_len (bi : Int) : ∀ (l : List Int) (pl c k p2 : Int) (rest : List Int), rdD bi l pl c k = .inr (p2, rest) → rest.length < l.length
  | [], _, _, _, _, _, h => by simp [rdD] at h
  | b :: l, pl, c, k, p2, rest, h => by
    simp only [rdD] at h
    split at h
    · cases h
    · split at h
      · cases h
      · split at h
        · injection h with h
          injection h with _ h
          subst h
          simp
        · split at h
          · cases h
          · have := rdD_len bi l _ _ _ p2 rest h
            rw [List.length_cons]; omega
theorem rdS_fuel : ∀ (f g : Nat) (s : DS) (l : List Int), l.length ≤ f → l.length ≤ g → rdS f s l = rdS g s l
  | 0, 0, _, _, _, _ => rfl
  | 0, g + 1, s, [], _, _ => rfl
  | 0, _ + 1, _, _ :: _, h, _ => by simp at h
  | f + 1, 0, s, [], _, _ => rfl
  | _ + 1, 0, _, _ :: _, _, h => by simp at h
  | f + 1, g + 1, s, [], _, _ => rfl
  | f + 1, g + 1, s, b :: l, h1, h2 => by
    rw [rdS_step f s _ (by simp), rdS_step g s _ (by simp)]
    cases hd : rdD s.bias (b :: l) s.place 1 36 with
    | inl e => rfl
    | inr x =>
      obtain ⟨p2, rest⟩ := x
      have hl := rdD_len _ _ _ _ _ _ _ hd
      simp only
      split
      · rfl
      · split
        · rfl
        · exact rdS_fuel f g _ rest (by simp at hl h1; omega) (by simp at hl h2; omega)
/-- A text's bytes as numbers. -/
def bsI (s : ByteArray) : List Int := s.data.toList.map (fun b => (b.toNat : Int))
theorem bsI_drop (s : ByteArray) (j : Nat) (h : j < s.size) : (bsI s).drop j = ((s[j].toNat : Nat) : Int) :: (bsI s).drop (j + 1) := by
  have hl : j < (bsI s).length := by unfold bsI; rw [List.length_map, len_size]; exact h
  have e : (bsI s)[j] = ((s[j].toNat : Nat) : Int) := by
    simp [bsI]
    rfl
  rw [List.drop_eq_getElem_cons hl, e]
theorem bsI_len (s : ByteArray) : (bsI s).length = s.size := by unfold bsI; rw [List.length_map]; exact len_size s

/-- What readDeltas answers. -/
def rdV (r : Sum Int (List Ent)) (e : Ending) (w w' : World) : Prop := match r with
  | .inl x => e = .returned (.tuple #[.slice none 0 0, .int .i64 x])
  | .inr l => ∃ v, e = .returned (.tuple #[v, .int .i64 0]) ∧ w'.ownsRow w.heap.size 68 2 v l.length (l.flatMap ec)

set_option maxRecDepth 100000 in
set_option maxHeartbeats 8000000 in
theorem read_any (s : ByteArray) (hs : s.size ≤ 1000) (st0 : Nat) (hst : st0 ≤ 1000) (w : World) :
    Calls Try.prog 30 #[.string s, .int .i64 st0] w fun e w' => rdV (rdS s.size ⟨128, 0, 72, st0, []⟩ (bsI s)) e w w' ∧ Below w.heap.size w w' := by
  go_enter Try.func30, Try.ntmps30
  go_wp2
  go_step3
  go_wp2
  go_step3
  go_wp2_with fail
  go_loopg [1, 6, 7, 8, 9, 10] (s.size) (fun gg vst vo vn vp vb vi wr => ∃ (i st : Nat) (n pl bi : Int) (acc : List Ent), vi = .int .i64 i ∧ vst = .int .i64 st ∧ vn = .int .i64 n ∧ vp = .int .i64 pl ∧ vb = .int .i64 bi ∧ i ≤ s.size ∧ gg = s.size - i ∧ st ≤ 1000 + i ∧ 128 ≤ n ∧ n ≤ 1114111 ∧ 0 ≤ pl ∧ pl ≤ 10000 ∧ 0 ≤ bi ∧ bi ≤ 1000000000000 ∧ acc.length ≤ i ∧ Hid (rdS (s.size - i) ⟨n, pl, bi, st, acc⟩ ((bsI s).drop i) = rdS s.size ⟨128, 0, 72, st0, []⟩ (bsI s) ∧ wr.ownsRow w.heap.size 68 2 vo acc.length (acc.flatMap ec) ∧ Ok w.heap.size w wr))
  case atStart => exact ⟨0, st0, 128, 0, 72, [], rfl, rfl, rfl, rfl, rfl, Nat.zero_le _, rfl, by omega, by omega, by omega, by omega, by omega, by omega, by omega, Nat.le_refl _, rfl, World.ownsRow_nil _ _ _ _, Ok.start w⟩
  case round =>
    obtain ⟨i, st, n, pl, bi, acc, rfl, rfl, rfl, rfl, rfl, hi, hg, hst', n1, n2, p1, p2, b1, b2, hac, H⟩ := hrel
    have HG := hid hg
    clear hg
    have HLn := hid (bsI_len s)
    obtain ⟨ao6, cap6, rfl⟩ := own_slice H.out.2.1
    by_cases hlt : i < s.size
    · have z1 : (i : Int) < (s.size : Int) := by omega
      have HSt : Hid (rdS s.size ⟨128, 0, 72, st0, []⟩ (bsI s) = rdS (s.size - i - 1 + 1) ⟨n, pl, bi, st, acc⟩ ((bsI s).drop i)) := by
        show _ = _
        rw [← H.out.1, show s.size - i - 1 + 1 = s.size - i by omega]
      have hne : (bsI s).drop i ≠ [] := by
        intro e
        have := congrArg List.length e
        rw [List.length_drop, HLn.out] at this
        simp at this
        omega
      rw [rdS_step _ _ _ hne] at HSt
      have HOw := hid H.out.2
      clear H hne
      go_wp2_with fail
      go_loopg [1, 6, 7, 8, 9, 10, 12, 13] (s.size - i) (fun gg vst vo vn vp vb vi vc vk wr2 => ∃ (j : Nat) (pc c k : Int), vst = .int .i64 st ∧ vo = .slice ao6 acc.length cap6 ∧ vn = .int .i64 n ∧ vb = .int .i64 bi ∧ vi = .int .i64 j ∧ vp = .int .i64 pc ∧ vc = .int .i64 c ∧ vk = .int .i64 k ∧ i ≤ j ∧ j ≤ s.size ∧ gg = s.size - j ∧ pl ≤ pc ∧ pc ≤ 2147483647 ∧ 1 ≤ c ∧ c ≤ 2147483647 ∧ 0 ≤ k ∧ k ≤ 36 + 36 * j ∧ wr2 = wr ∧ Hid (rdD bi ((bsI s).drop i) pl 1 36 = rdD bi ((bsI s).drop j) pc c k))
      case atStart => exact ⟨i, pl, 1, 36, rfl, rfl, rfl, rfl, rfl, rfl, rfl, rfl, Nat.le_refl _, by omega, rfl, Int.le_refl _, by omega, by omega, by omega, by omega, by omega, rfl, rfl⟩
      case round =>
        obtain ⟨j, pc, c, k, rfl, rfl, rfl, rfl, rfl, rfl, rfl, rfl, hij, hjs, hg2, c1, c2, c3, c4, k1, k2, rfl, HD⟩ := hrel
        have HG2 := hid hg2
        clear hg2
        by_cases hlt2 : j < s.size
        · have z2 : (j : Int) < (s.size : Int) := by omega
          have hdj := bsI_drop s j hlt2
          have hx0 : (0 : Int) ≤ (s[j].toNat : Int) := by omega
          have hx1 : (s[j].toNat : Int) < 256 := by have := s[j].toNat_lt; omega
          have HV := hid (value_any (s[j].toNat : Int) wr hx0 hx1)
          have HE : Hid (rdD bi ((bsI s).drop i) pl 1 36 = if vlP (s[j].toNat : Int) < 0 then .inl 9 else if (2147483647 - pc) / c < vlP (s[j].toNat : Int) then .inl 11 else if vlP (s[j].toNat : Int) < thP k bi then .inr (pc + vlP (s[j].toNat : Int) * c, (bsI s).drop (j + 1)) else if 2147483647 / (36 - thP k bi) < c then .inl 11 else rdD bi ((bsI s).drop (j + 1)) (pc + vlP (s[j].toNat : Int) * c) (c * (36 - thP k bi)) (k + 36)) := by
            show _ = _
            rw [HD.out, hdj]; rfl
          have HVv : Hid (vlV (s[j].toNat : Int) = if vlP (s[j].toNat : Int) < 0 then 0 else vlP (s[j].toNat : Int)) := rfl
          have HVb : Hid (vlB (s[j].toNat : Int) = decide (0 ≤ vlP (s[j].toNat : Int))) := rfl
          have hvm : vlP (s[j].toNat : Int) ≤ 35 := by
            unfold vlP
            split
            · omega
            · split
              · omega
              · split <;> omega
          clear HD hdj
          generalize vlP (s[j].toNat : Int) = v at *
          by_cases hv : v < 0
          · have HR : Hid (rdS s.size ⟨128, 0, 72, st0, []⟩ (bsI s) = .inl 9) := by show _ = _; rw [HSt.out, HE.out, if_pos hv]
            rw [HVv.out, HVb.out, if_pos hv, decide_eq_false (by omega)] at HV
            go_wp2_with fail
            refine HV.out.mono ?_
            rintro e w1 ⟨rfl, rfl⟩
            go_wp2_with fail
            try rw [Exit.noGoto_ret]
            go_ret2
            exact ⟨by rw [HR.out]; rfl, HOw.out.2.1⟩
          · rw [if_neg hv] at HE
            rw [HVv.out, HVb.out, if_neg hv, decide_eq_true (by omega)] at HV
            obtain ⟨Q, hQ⟩ : ∃ Q, (2147483647 - pc) / c = Q := ⟨_, rfl⟩
            have hcz : ¬ c = 0 := by omega
            rw [hQ] at HE
            by_cases hq : Q < v
            · have HR : Hid (rdS s.size ⟨128, 0, 72, st0, []⟩ (bsI s) = .inl 11) := by show _ = _; rw [HSt.out, HE.out, if_pos hq]
              go_wp2_with fail
              refine HV.out.mono ?_
              rintro e w1 ⟨rfl, rfl⟩
              go_wp2_with fail
              try rw [Exit.noGoto_ret]
              go_ret2
              exact ⟨by rw [HR.out]; rfl, HOw.out.2.1⟩
            · rw [if_neg hq] at HE
              obtain ⟨X, hX⟩ : ∃ X, v * c = X := ⟨_, rfl⟩
              have X0 : 0 ≤ X := by rw [← hX]; exact Int.mul_nonneg (by omega) (by omega)
              have X1 : X ≤ 2147483647 - pc := by
                have e1 : Q * c ≤ 2147483647 - pc := by rw [← hQ]; exact Int.ediv_mul_le _ (by omega)
                have e2 : v * c ≤ Q * c := Int.mul_le_mul_of_nonneg_right (by omega) (by omega)
                omega
              rw [hX] at HE
              have HT := hid (thr_any k bi wr (by omega) (by omega))
              have ht := th_bd k bi
              generalize thP k bi = t at *
              by_cases hvt : v < t
              · rw [if_pos hvt] at HE
                obtain ⟨P2, hP2⟩ : ∃ P2, pc + X = P2 := ⟨_, rfl⟩
                obtain ⟨qd, hqd⟩ : ∃ qd, P2 / ((st : Int) + 1) = qd := ⟨_, rfl⟩
                obtain ⟨rm, hrm⟩ : ∃ rm, P2 % ((st : Int) + 1) = rm := ⟨_, rfl⟩
                obtain ⟨dl, hdl⟩ : ∃ dl, P2 - pl = dl := ⟨_, rfl⟩
                have q0 : 0 ≤ qd := by rw [← hqd]; exact Int.ediv_nonneg (by omega) (by omega)
                have q1 : qd ≤ P2 := by rw [← hqd]; exact Int.ediv_le_self _ (by omega)
                have r0 : 0 ≤ rm := by rw [← hrm]; exact Int.emod_nonneg _ (by omega)
                have r1 : rm < (st : Int) + 1 := by rw [← hrm]; exact Int.emod_lt_of_pos _ (by omega)
                have hsz : ¬ ((st : Int) + 1 = 0) := by omega
                have HS2 : Hid (rdS s.size ⟨128, 0, 72, st0, []⟩ (bsI s) = if 2147483647 - n < qd then .inl 11 else if 1114111 < n + qd then .inl 7 else rdS (s.size - i - 1) ⟨n + qd, rm + 1, (adP dl.toNat (st + 1) (acc.length == 0) : Nat), st + 1, acc ++ [(n + qd, rm)]⟩ ((bsI s).drop (j + 1))) := by
                  show _ = _
                  rw [HSt.out, HE.out, hP2]
                  simp only
                  rw [hqd, hrm, hdl]
                have hl2 : ((bsI s).drop (j + 1)).length = s.size - (j + 1) := by rw [List.length_drop, HLn.out]
                have HFu := hid (fun d => rdS_fuel (s.size - i - 1) (s.size - (j + 1)) d ((bsI s).drop (j + 1)) (by omega) (by omega))
                have HAda : Hid (∀ W, Calls Try.prog 19 #[.int .i64 dl, .int .i64 ((st : Int) + 1), .bool ((acc.length : Int) == 0)] W fun e w' => e = .returned (.int .i64 (adP dl.toNat (st + 1) (acc.length == 0) : Nat)) ∧ w' = W) := by
                  refine hid (fun W => ?_)
                  have e1 : (dl.toNat : Int) = dl := Int.toNat_of_nonneg (by omega)
                  by_cases hk0 : acc.length = 0
                  · have h1 := adapt_t dl.toNat (st + 1) W (by omega) (by omega) (by omega)
                    rw [e1] at h1
                    rw [hk0]
                    exact h1
                  · have h1 := adapt_f dl.toNat (st + 1) W (by omega) (by omega) (by omega)
                    rw [e1] at h1
                    have e2 : ((acc.length : Int) == 0) = false := by simpa using hk0
                    have e3 : (acc.length == 0) = false := by simpa using hk0
                    rw [e2, e3]
                    exact h1
                have hnb := ad_le dl.toNat (st + 1) (acc.length == 0)
                have hacl : Hid (acc.length ≤ 1000) := by show _ ≤ _; omega
                clear HE HSt hl2
                generalize adP dl.toNat (st + 1) (acc.length == 0) = nb at *
                by_cases hn1 : 2147483647 - n < qd
                · have HR : Hid (rdS s.size ⟨128, 0, 72, st0, []⟩ (bsI s) = .inl 11) := by show _ = _; rw [HS2.out, if_pos hn1]
                  go_wp2_with fail
                  refine HV.out.mono ?_
                  rintro e w1 ⟨rfl, rfl⟩
                  go_wp2_with fail
                  refine HT.out.mono ?_
                  rintro e w1 ⟨rfl, rfl⟩
                  go_wp2_with fail
                  refine (HAda.out _).mono ?_
                  rintro e w1 ⟨rfl, rfl⟩
                  go_wp2_with fail
                  try rw [Exit.noGoto_ret]
                  go_ret2
                  exact ⟨by rw [HR.out]; rfl, HOw.out.2.1⟩
                · by_cases hn2 : 1114111 < n + qd
                  · have HR : Hid (rdS s.size ⟨128, 0, 72, st0, []⟩ (bsI s) = .inl 7) := by show _ = _; rw [HS2.out, if_neg hn1, if_pos hn2]
                    go_wp2_with fail
                    refine HV.out.mono ?_
                    rintro e w1 ⟨rfl, rfl⟩
                    go_wp2_with fail
                    refine HT.out.mono ?_
                    rintro e w1 ⟨rfl, rfl⟩
                    go_wp2_with fail
                    refine (HAda.out _).mono ?_
                    rintro e w1 ⟨rfl, rfl⟩
                    go_wp2_with fail
                    try rw [Exit.noGoto_ret]
                    go_ret2
                    exact ⟨by rw [HR.out]; rfl, HOw.out.2.1⟩
                  · have HR : Hid (rdS (s.size - (j + 1)) ⟨n + qd, rm + 1, (nb : Nat), st + 1, acc ++ [(n + qd, rm)]⟩ ((bsI s).drop (j + 1)) = rdS s.size ⟨128, 0, 72, st0, []⟩ (bsI s)) := by show _ = _; rw [HS2.out, if_neg hn1, if_neg hn2, HFu.out]
                    have hwr : IntKind.i32.wrap (n + qd) = n + qd := by rw [IntKind.wrap_i32]; omega
                    generalize hal : acc.length = al at *
                    have HAl := hid hal
                    clear hal HS2 HFu
                    go_wp2_with fail
                    refine HV.out.mono ?_
                    rintro e w1 ⟨rfl, rfl⟩
                    go_wp2_with fail
                    refine HT.out.mono ?_
                    rintro e w1 ⟨rfl, rfl⟩
                    go_wp2_with fail
                    refine (HAda.out _).mono ?_
                    rintro e w1 ⟨rfl, rfl⟩
                    go_wp2_with (at_builtin; refine app_ent rfl (.tmp 91) (.tmp 96) rfl w1 w.heap.size al (.slice ao6 al cap6) (acc.flatMap ec) (n + qd, rm) rfl w1.heap.size rfl rfl HOw.out.1 (by have := hacl.out; omega) HOw.out.2.2 (fun v2 w2 h1 h2 => ?_))
                    have H2 : Hid (w2.ownsRow w.heap.size 68 2 v2 (acc ++ [(n + qd, rm)]).length ((acc ++ [(n + qd, rm)]).flatMap ec) ∧ Ok w.heap.size w w2) := by
                      refine ⟨?_, ok_below h2 HOw.out.2⟩
                      rw [List.length_append, HAl.out, List.flatMap_append, List.flatMap_cons, List.flatMap_nil, List.append_nil]
                      exact h1
                    clear h1 h2
                    go_roundg (s.size - (j + 1))
                    case measure => rw [HG.out]; omega
                    case rel => exact ⟨j + 1, st + 1, n + qd, rm + 1, nb, acc ++ [(n + qd, rm)], by go_num, by go_num, rfl, by go_num, rfl, by omega, rfl, by omega, by omega, by omega, by omega, by omega, by omega, by omega, by rw [List.length_append, HAl.out]; simp; omega, HR.out, H2.out⟩
              · rw [if_neg hvt] at HE
                obtain ⟨D, hD⟩ : ∃ D, 2147483647 / (36 - t) = D := ⟨_, rfl⟩
                have htz : ¬ 36 - t = 0 := by omega
                rw [hD] at HE
                by_cases hdc : D < c
                · have HR : Hid (rdS s.size ⟨128, 0, 72, st0, []⟩ (bsI s) = .inl 11) := by show _ = _; rw [HSt.out, HE.out, if_pos hdc]
                  go_wp2_with fail
                  refine HV.out.mono ?_
                  rintro e w1 ⟨rfl, rfl⟩
                  go_wp2_with fail
                  refine HT.out.mono ?_
                  rintro e w1 ⟨rfl, rfl⟩
                  go_wp2_with fail
                  try rw [Exit.noGoto_ret]
                  go_ret2
                  exact ⟨by rw [HR.out]; rfl, HOw.out.2.1⟩
                · rw [if_neg hdc] at HE
                  obtain ⟨Y, hY⟩ : ∃ Y, c * (36 - t) = Y := ⟨_, rfl⟩
                  have Y0 : 1 ≤ Y := by
                    have e2 : 1 * (36 - t) ≤ c * (36 - t) := Int.mul_le_mul_of_nonneg_right (by omega) (by omega)
                    omega
                  have Y1 : Y ≤ 2147483647 := by
                    have e1 : D * (36 - t) ≤ 2147483647 := by rw [← hD]; exact Int.ediv_mul_le _ (by omega)
                    have e2 : c * (36 - t) ≤ D * (36 - t) := Int.mul_le_mul_of_nonneg_right (by omega) (by omega)
                    omega
                  rw [hY] at HE
                  go_wp2_with fail
                  refine HV.out.mono ?_
                  rintro e w1 ⟨rfl, rfl⟩
                  go_wp2_with fail
                  refine HT.out.mono ?_
                  rintro e w1 ⟨rfl, rfl⟩
                  go_wp2_with fail
                  go_roundg (s.size - (j + 1))
                  case measure => rw [HG2.out]; omega
                  case rel => exact ⟨j + 1, pc + X, Y, k + 36, rfl, rfl, rfl, rfl, by go_num, by go_num, rfl, by go_num, by omega, by omega, rfl, by omega, by omega, Y0, Y1, by omega, by omega, rfl, HE.out⟩
        · have HR : Hid (rdS s.size ⟨128, 0, 72, st0, []⟩ (bsI s) = .inl 9) := by
            show _ = _
            have e1 : (bsI s).drop j = [] := List.drop_eq_nil_of_le (by rw [HLn.out]; omega)
            rw [HSt.out, HD.out, e1]; rfl
          have z2 : ¬ (j : Int) < (s.size : Int) := by omega
          go_wp2_with fail
          try rw [Exit.noGoto_ret]
          go_ret2
          exact ⟨by rw [HR.out]; rfl, HOw.out.2.1⟩
    · have HR : Hid (rdS s.size ⟨128, 0, 72, st0, []⟩ (bsI s) = .inr acc) := by
        show _ = _
        rw [← H.out.1, show s.size - i = 0 by omega]; rfl
      have z1 : ¬ (i : Int) < (s.size : Int) := by omega
      have HOw := hid H.out.2
      clear H
      go_wp2_with fail
      try rw [Exit.noGoto_ret]
      go_ret2
      exact ⟨by rw [HR.out]; exact ⟨_, rfl, HOw.out.1⟩, HOw.out.2.1⟩
end Pu
end Go.Proofs.Ytoknfhjclpdihaa
